/-
  The document's reader of a chunk: value: the walk.
-/
import Derived.Test.YtkiefmhampfhoaaDoorCkSt
namespace Go.Proofs.YtkiefmhampfhoaaDoor
open Go.RowKit

/-- the state's window, in bounds -/
def WdB (Ld K : Int) : Prop := 0 ≤ Ld ∧ Ld ≤ 64 ∧ -64 ≤ K ∧ K ≤ 63
/-- the state is that of st -/
def Of (st : Pst) (V : Nat) (Ld K : Int) : Prop := st.f = V ∧ Ld = winL (st.th, st.ld, st.tl) ∧ K = winK (st.th, st.ld, st.tl) ∧ st.ld ≤ 31 ∧ st.ld + st.tl < 64
/-- what is to come behind a window -/
def ValE (L : List UInt8) (s p : Nat) (bad : Bool) (V : Nat) (Ld K : Int) (q : Nat) (bad' : Bool) (Ld' K' : Int) : Prop :=
  bad = false → ∀ st f1 wd p1, Of st V Ld K → valO st L s p = some (f1, wd, p1) → bad' = false ∧ Ld' = winL wd ∧ K' = winK wd ∧ wd.1 = true ∧ wd.2.1 ≤ 31 ∧ wd.2.1 + wd.2.2 ≤ 64 ∧ ∃ v, tkO L s q (64 - wd.2.1 - wd.2.2) = some (v, p1) ∧ f1 = V ^^^ (v * 2 ^ wd.2.2)

/-- what value answers -/
def VPost (w0 w : World) (gr gs gp p : Nat) (L : List UInt8) (bad : Bool) (T D : Int) (V : Nat) (Ld K : Int) (e : Ending) (w' : World) : Prop := ∃ (x : Nat) (p' : Nat) (bad' : Bool) (Ld' K' : Int), e = .returned (.int .u64 (x : Int)) ∧ x < 18446744073709551616 ∧ DR w0 w' gr gs gp L p' bad' T D V Ld' K' ∧ WdB Ld' K' ∧ (bad = false → ∀ st f1 wd p1, Of st V Ld K → valO st L (8 * L.length) p = some (f1, wd, p1) → x = f1 ∧ p' = p1 ∧ bad' = false ∧ Ld' = winL wd ∧ K' = winK wd) ∧ KeepT tR w w'

set_option maxRecDepth 8000 in
set_option maxHeartbeats 6400000 in
theorem dVal_any (w0 w : World) (gr gs gp p : Nat) (L : List UInt8) (bad : Bool) (T D : Int) (V : Nat) (Ld K : Int) (hV : V < 18446744073709551616) (hW : WdB Ld K) (h : DR w0 w gr gs gp L p bad T D V Ld K) :
    Calls Tryd.prog 44 #[.pointer (some ⟨gr, 0, none⟩)] w fun e w' => VPost w0 w gr gs gp p L bad T D V Ld K e w' := by
  have HW := hidJ hW
  have HB := hidJ (dBits_any w0 w gr gs gp p L bad T D V Ld K 1 h)
  clear hW h
  go_enter Tryd.func44, Tryd.ntmps44
  go_wp2_with fail
  refine HB.out.mono ?_
  rintro e w1 ⟨x1, p1, bad1, rfl, hx1, hD1, hex1, hk1⟩
  have hx12 : x1 < 2 := by have := (hex1 (by decide) (by decide)).1; simpa using this
  have H1 := hidJ (And.intro hD1 (And.intro (hex1 (by decide) (by decide)).2 hk1))
  clear HB hD1 hex1 hk1 hx1
  rcases (show x1 = 0 ∨ x1 = 1 by omega) with rfl | rfl
  · obtain ⟨⟨-, c1, -⟩, -, -, c2, -, -⟩ := H1.out.1.cells
    have HF : Hid (bad = false → ∀ st f1 wd p2, Of st V Ld K → valO st L (8 * L.length) p = some (f1, wd, p2) → V = f1 ∧ p1 = p2 ∧ bad1 = false ∧ Ld = winL wd ∧ K = winK wd) := by
      intro hb st f1 wd p2 ho hv
      unfold valO at hv
      cases ht : tkO L (8 * L.length) p 1 with
      | none => rw [ht] at hv; cases hv
      | some y =>
        obtain ⟨y1, y2⟩ := y
        obtain ⟨rfl, rfl, rfl⟩ := H1.out.2.1 y1 y2 ht
        rw [ht] at hv
        simp only [Nat.zero_ne_one, if_false, Option.some.injEq, Prod.mk.injEq] at hv
        obtain ⟨e1, e2, e3⟩ := hv
        exact ⟨ho.1.symm.trans e1, e3, hb, by rw [← e2]; exact ho.2.1, by rw [← e2]; exact ho.2.2.1⟩
    go_wp2
    go_ret
    unfold VPost; exact ⟨V, p1, bad1, Ld, K, rfl, hV, H1.out.1, HW.out, HF.out, H1.out.2.2⟩
  · have HB := hidJ (dBits_any w0 w1 gr gs gp p1 L bad1 T D V Ld K 1 H1.out.1)
    go_wp2_with fail
    refine HB.out.mono ?_
    rintro e w2 ⟨x2, p2, bad2, rfl, hx2, hD2, hex2, hk2⟩
    have hx22 : x2 < 2 := by have := (hex2 (by decide) (by decide)).1; simpa using this
    have H2 : Hid (DR w0 w2 gr gs gp L p2 bad2 T D V Ld K ∧ KeepT tR w w2 ∧ (bad = false → ∀ st f1 wd p3, Of st V Ld K → valO st L (8 * L.length) p = some (f1, wd, p3) → bad2 = false ∧ ∃ v, f1 = V ^^^ v ∧ turnedO st L (8 * L.length) p1 = some (v, wd, p3) ∧ tkO L (8 * L.length) p1 1 = some (x2, p2))) := by
      refine ⟨hD2, H1.out.2.2.trans hk2, fun hb st f1 wd p3 ho hv => ?_⟩
      unfold valO at hv
      cases ht : tkO L (8 * L.length) p 1 with
      | none => rw [ht] at hv; cases hv
      | some y =>
        obtain ⟨y1, y2⟩ := y
        obtain ⟨rfl, rfl, rfl⟩ := H1.out.2.1 y1 y2 ht
        rw [ht] at hv
        simp only [if_true] at hv
        cases h3 : turnedO st L (8 * L.length) p1 with
        | none => rw [h3] at hv; cases hv
        | some z =>
          obtain ⟨v, wd', p4⟩ := z
          rw [h3] at hv
          simp only [Option.some.injEq, Prod.mk.injEq] at hv
          obtain ⟨e1, rfl, rfl⟩ := hv
          cases h4 : tkO L (8 * L.length) p1 1 with
          | none => unfold turnedO winO at h3; rw [h4] at h3; cases h3
          | some u =>
            obtain ⟨u1, u2⟩ := u
            obtain ⟨rfl, rfl, e5⟩ := (hex2 (by decide) (by decide)).2 u1 u2 h4
            exact ⟨by rw [e5]; exact hb, v, by rw [← e1, ho.1], rfl, rfl⟩
    clear HB hD2 hex2 hk2 hx2 H1
    go_upto_if 16 with fail
    go_cut [3] from 4 (fun _ wx => Hid (∃ q bad' Ld' K', DR w0 wx gr gs gp L q bad' T D V Ld' K' ∧ WdB Ld' K' ∧ ValE L (8 * L.length) p bad V Ld K q bad' Ld' K' ∧ KeepT tR w wx))
    case first =>
      rcases (show x2 = 0 ∨ x2 = 1 by omega) with rfl | rfl
      · have HE : Hid (∃ q bad' Ld' K', DR w0 w2 gr gs gp L q bad' T D V Ld' K' ∧ WdB Ld' K' ∧ ValE L (8 * L.length) p bad V Ld K q bad' Ld' K' ∧ KeepT tR w w2) := by
          refine ⟨p2, bad2, Ld, K, H2.out.1, HW.out, fun hb st f1 wd p3 ho hv => ?_, H2.out.2.1⟩
          obtain ⟨e1, v, e2, e3, e4⟩ := H2.out.2.2 hb st f1 wd p3 ho hv
          unfold turnedO winO at e3
          rw [e4] at e3
          simp only [Nat.zero_ne_one, if_false] at e3
          cases hth : st.th with
          | false => rw [hth] at e3; simp at e3
          | true =>
            rw [hth] at e3
            simp only [if_true] at e3
            cases h5 : tkO L (8 * L.length) p2 (64 - st.ld - st.tl) with
            | none => rw [h5] at e3; cases e3
            | some z =>
              obtain ⟨v1, p4⟩ := z
              rw [h5] at e3
              simp only [Option.some.injEq, Prod.mk.injEq] at e3
              obtain ⟨rfl, rfl, rfl⟩ := e3
              have h6 := ho.2.1
              have h7 := ho.2.2.1
              rw [hth] at h6 h7
              exact ⟨e1, h6, h7, rfl, ho.2.2.2.1, by have := ho.2.2.2.2; simp only; omega, v1, h5, e2⟩
        go_wp2_with fail
        go_meet
        case rel => exact HE
      · have HB : Hid (∀ W, w2.grownBy W none → Calls Tryd.prog 43 #[.pointer (some ⟨gr, 0, none⟩), .int .i64 5] W fun e w' => ∃ l : Nat, e = .returned (.int .u64 (l : Int)) ∧ l < 32 ∧ Hid (∃ p3 bad3, DR w0 w' gr gs gp L p3 bad3 T D V Ld K ∧ KeepT tR w w' ∧ ∀ y1 y2, tkO L (8 * L.length) p2 5 = some (y1, y2) → l = y1 ∧ p3 = y2 ∧ bad3 = bad2) ∧ w'.cell? ⟨gr, 1, none⟩ = some (.pointer (some ⟨gp, 0, none⟩)) ∧ w'.cell? ⟨gp, 3, none⟩ = some (.int .i64 Ld) ∧ w'.frozen? ⟨gp, 3, none⟩ = false ∧ IntKind.i64.wrap (l : Int) = (l : Int)) := fun W hW => by
          refine (dBits_any w0 W gr gs gp p2 L bad2 T D V Ld K 5 (H2.out.1.keep hW)).mono ?_
          rintro e w' ⟨l, p3, bad3, q1, q2, q3, q4, q5⟩
          have hl := (q4 (by decide) (by decide)).1
          exact ⟨l, q1, by simpa using hl, ⟨p3, bad3, q3, H2.out.2.1.trans ((KeepT.of_none hW).trans q5), (q4 (by decide) (by decide)).2⟩, q3.cells.1.2.1, q3.cells.2.2.2.2.1, (q3.frz 3).1, by rw [IntKind.wrap_i64]; have : l < 32 := (by simpa using hl); omega⟩
        have hgne : ¬ gr = gp := H2.out.1.ne.1
        have hgne2 : ¬ gp = gr := fun e => hgne e.symm
        have c1 := H2.out.1.cells.1.2.1
        go_wp2_with fail
        go_region_held3 (fun w' => w'.cell? ⟨gr, 1, none⟩ = some (.pointer (some ⟨gp, 0, none⟩))) (go_keep)
          (first
            | (go_at_call 43; refine (HB.out _ ?_).mono ?_; (first | exact gb_drew _ _ | exact gb_refl _ _); rintro e w3 ⟨l, rfl, hl, H3, y1, y3, z3, wl⟩))
        obtain ⟨p3, bad3, hD3, hk3, hex3⟩ := H3.out
        have hU3 := hD3.upd 3 (.int .i64 (l : Int)) (T' := T) (D' := D) (V' := V) (L' := (l : Int)) (K' := K) (heap_setCell_same w3 gp 3 _ _ _ hD3.sta)
        have H4 : Hid (DR w0 (w3.setCell ⟨gp, 3, none⟩ (.int .i64 (l : Int))) gr gs gp L p3 bad3 T D V (l : Int) K ∧ KeepT tR w (w3.setCell ⟨gp, 3, none⟩ (.int .i64 (l : Int))) ∧ ∀ y1 y2, tkO L (8 * L.length) p2 5 = some (y1, y2) → l = y1 ∧ p3 = y2 ∧ bad3 = bad2) := ⟨hU3, hk3.trans (KeepT.of_own (gb_set w3 gp 3 _) hD3.sta (by simp [tR])), hex3⟩
        clear H3 hD3 hk3 hex3 hU3 y1 y3 z3 HB c1 wl
        generalize w3.setCell ⟨gp, 3, none⟩ (.int .i64 (l : Int)) = w4 at *
        have HB := hidJ (dBits_any w0 w4 gr gs gp p3 L bad3 T D V (l : Int) K 6 H4.out.1)
        go_wp2_with fail
        refine HB.out.mono ?_
        rintro e w5 ⟨z, p4, bad4, rfl, hz64, hD5, hex5, hk5⟩
        have hz : z < 64 := by have := (hex5 (by decide) (by decide)).1; simpa using this
        have H5 : Hid (DR w0 w5 gr gs gp L p4 bad4 T D V (l : Int) K ∧ KeepT tR w w5 ∧ ∀ y1 y2 y3 y4, tkO L (8 * L.length) p2 5 = some (y1, y2) → tkO L (8 * L.length) y2 6 = some (y3, y4) → l = y1 ∧ z = y3 ∧ p4 = y4 ∧ bad4 = bad2) := by
          refine ⟨hD5, H4.out.2.1.trans hk5, fun y1 y2 y3 y4 e1 e2 => ?_⟩
          obtain ⟨f1, rfl, rfl⟩ := H4.out.2.2 y1 y2 e1
          obtain ⟨f4, f5, f6⟩ := (hex5 (by decide) (by decide)).2 y3 y4 e2
          exact ⟨f1, f4, f5, f6⟩
        clear HB H4 hD5 hex5 hk5 hz64
        obtain ⟨⟨-, c1, -⟩, -, -, -, c3, c4⟩ := H5.out.1.cells
        have z4 := (H5.out.1.frz 4).1
        obtain ⟨N, hN⟩ : ∃ N, (if z = 0 then 64 else z) = N := ⟨_, rfl⟩
        have HN : Hid ((if z = 0 then 64 else z) = N ∧ 1 ≤ N ∧ N ≤ 64) := ⟨hN, by split at hN <;> omega, by split at hN <;> omega⟩
        obtain ⟨R, hR⟩ : ∃ R : Int, 64 - (l : Int) - (N : Int) = R := ⟨_, rfl⟩
        have HU : Hid (DR w0 (w5.setCell ⟨gp, 4, none⟩ (.int .i64 R)) gr gs gp L p4 bad4 T D V (l : Int) R ∧ KeepT tR w (w5.setCell ⟨gp, 4, none⟩ (.int .i64 R)) ∧ WdB (l : Int) R ∧ ValE L (8 * L.length) p bad V Ld K p4 bad4 (l : Int) R) := by
          have hNb := HN.out
          refine ⟨H5.out.1.upd 4 (.int .i64 R) (T' := T) (D' := D) (V' := V) (L' := (l : Int)) (K' := R) (heap_setCell_same w5 gp 4 _ _ _ H5.out.1.sta), H5.out.2.1.trans (KeepT.of_own (gb_set w5 gp 4 _) H5.out.1.sta (by simp [tR])), ⟨by omega, by omega, by omega, by omega⟩, fun hb st f1 wd p5 ho hv => ?_⟩
          obtain ⟨e1, v, e2, e3, e4⟩ := H2.out.2.2 hb st f1 wd p5 ho hv
          unfold turnedO winO at e3
          rw [e4] at e3
          simp only [if_true] at e3
          cases t5 : tkO L (8 * L.length) p2 5 with
          | none => rw [t5] at e3; cases e3
          | some y =>
            obtain ⟨y1, y2⟩ := y
            rw [t5] at e3
            simp only at e3
            cases t6 : tkO L (8 * L.length) y2 6 with
            | none => rw [t6] at e3; cases e3
            | some y' =>
              obtain ⟨y3, y4⟩ := y'
              rw [t6] at e3
              obtain ⟨rfl, rfl, rfl, rfl⟩ := H5.out.2.2 y1 y2 y3 y4 t5 t6
              simp only [hN] at e3
              by_cases hle : 64 < l + N
              · rw [if_pos hle] at e3; cases e3
              · rw [if_neg hle] at e3
                simp only at e3
                cases t7 : tkO L (8 * L.length) p4 (64 - l - (64 - l - N)) with
                | none => rw [t7] at e3; cases e3
                | some y'' =>
                  obtain ⟨v1, p6⟩ := y''
                  rw [t7] at e3
                  simp only [Option.some.injEq, Prod.mk.injEq] at e3
                  obtain ⟨rfl, rfl, rfl⟩ := e3
                  refine ⟨e1, rfl, ?_, rfl, by simp only; omega, by simp only; omega, v1, t7, e2⟩
                  show R = ((64 - l - N : Nat) : Int)
                  omega
        have HR2 := hidJ hR
        clear H5 H2 hN hR
        by_cases hz0 : z = 0
        · subst hz0
          obtain rfl : N = 64 := by have := HN.out.1; simpa using this.symm
          have hRi : (64 : Int) - (l : Int) - 64 = R := HR2.out
          have hRb : -64 ≤ R ∧ R ≤ 64 := by omega
          go_wp2_with fail
          go_region
          go_wp2_with fail
          go_meet
          case rel => exact ⟨p4, bad4, _, _, HU.out.1.keep (gb_drew _ _), HU.out.2.2.1, HU.out.2.2.2, HU.out.2.1.trans (KeepT.of_none (gb_drew _ _))⟩
        · obtain rfl : N = z := by have := HN.out.1; rw [if_neg hz0] at this; exact this.symm
          have hzb : ((N : Int) == 0) = false := by rw [beq_eq_false_iff_ne]; omega
          have hRi : (64 : Int) - (l : Int) - (N : Int) = R := HR2.out
          have hRb : -64 ≤ R ∧ R ≤ 64 := by omega
          go_wp2_with fail
          go_region
          go_wp2_with fail
          go_meet
          case rel => exact ⟨p4, bad4, _, _, HU.out.1.keep (gb_drew _ _), HU.out.2.2.1, HU.out.2.2.2, HU.out.2.1.trans (KeepT.of_none (gb_drew _ _))⟩
    case rest =>
      obtain ⟨q, bad', Ld', K', h1, h2, h3, h4⟩ := hcut.out
      have HH := hidJ (And.intro h1 (And.intro h2 (And.intro h3 h4)))
      obtain ⟨⟨-, c1, cb⟩, -, -, c2, c3, c4⟩ := h1.cells
      have zb := (h1.frz 2).2
      have HM : Hid (DR w0 (wc.setCell ⟨gr, 2, none⟩ (.bool true)) gr gs gp L q true T D V Ld' K' ∧ KeepT tR w (wc.setCell ⟨gr, 2, none⟩ (.bool true))) := ⟨h1.mark true, h4.trans (KeepT.of_own (gb_set wc gr 2 _) h1.rdr (by simp [tR]))⟩
      have hLK := h2
      unfold WdB at hLK
      clear h1 h2 h3 h4 hcut H2
      generalize wc = w6 at *
      by_cases hb1 : 64 ≤ Ld'
      · have HE : Hid (bad = false → ∀ st f1 wd p1, Of st V Ld K → valO st L (8 * L.length) p = some (f1, wd, p1) → 0 = f1 ∧ q = p1 ∧ true = false ∧ Ld' = winL wd ∧ K' = winK wd) := by
          intro hb st f1 wd p5 ho hv
          exfalso
          obtain ⟨-, e1, e2, e3, e4, e5, -⟩ := HH.out.2.2.1 hb st f1 wd p5 ho hv
          unfold winL at e1
          rw [if_pos e3] at e1
          omega
        go_wp2
        go_ret
        unfold VPost; exact ⟨0, q, true, Ld', K', rfl, by decide, HM.out.1, HH.out.2.1, HE.out, HM.out.2⟩
      · by_cases hb2 : K' < 0
        · have HE : Hid (bad = false → ∀ st f1 wd p1, Of st V Ld K → valO st L (8 * L.length) p = some (f1, wd, p1) → 0 = f1 ∧ q = p1 ∧ true = false ∧ Ld' = winL wd ∧ K' = winK wd) := by
            intro hb st f1 wd p5 ho hv
            exfalso
            obtain ⟨-, e1, e2, e3, e4, e5, -⟩ := HH.out.2.2.1 hb st f1 wd p5 ho hv
            unfold winK at e2
            rw [if_pos e3] at e2
            omega
          go_wp2
          go_ret
          unfold VPost; exact ⟨0, q, true, Ld', K', rfl, by decide, HM.out.1, HH.out.2.1, HE.out, HM.out.2⟩
        · obtain ⟨l0, rfl⟩ := Int.eq_ofNat_of_zero_le (show 0 ≤ Ld' by omega)
          obtain ⟨k0, rfl⟩ := Int.eq_ofNat_of_zero_le (show 0 ≤ K' by omega)
          have hk0 : k0 < 64 := by omega
          obtain ⟨M, hM⟩ : ∃ M : Int, 64 - (l0 : Int) = M := ⟨_, rfl⟩
          obtain ⟨n, hn⟩ : ∃ n : Int, M - (k0 : Int) = n := ⟨_, rfl⟩
          have hMb : 1 ≤ M ∧ M ≤ 64 := by omega
          have hnb : -64 ≤ n ∧ n ≤ 64 := by omega
          have hwM : IntKind.i64.wrap M = M := by rw [IntKind.wrap_i64]; omega
          have hwn : IntKind.i64.wrap n = n := by rw [IntKind.wrap_i64]; omega
          have HMn := hidJ (And.intro hM hn)
          have hmin : min (IntKind.u64.wrap (k0 : Int)).toNat 64 = k0 := by
            have h1 : IntKind.u64.wrap (k0 : Int) = (k0 : Int) := by rw [IntKind.wrap_u64]; omega
            rw [h1]; omega
          have HB : Hid (∀ W, w6.grownBy W none → Calls Tryd.prog 43 #[.pointer (some ⟨gr, 0, none⟩), .int .i64 n] W fun e w' => ∃ (x Y Z : Nat), e = .returned (.int .u64 (x : Int)) ∧ IntKind.u64.wrap ((x : Int) * 2 ^ k0) = (Y : Int) ∧ bits .xor .u64 (V : Int) (Y : Int) = (Z : Int) ∧ Hid (VPost w0 w gr gs gp p L bad T D V Ld K (.returned (.int .u64 (Z : Int))) w') ∧ w'.cell? ⟨gr, 1, none⟩ = some (.pointer (some ⟨gp, 0, none⟩)) ∧ w'.cell? ⟨gp, 2, none⟩ = some (.int .u64 (V : Int)) ∧ w'.cell? ⟨gp, 3, none⟩ = some (.int .i64 (l0 : Int)) ∧ w'.cell? ⟨gp, 4, none⟩ = some (.int .i64 (k0 : Int))) := fun W hW => by
            obtain ⟨h1, h2, h3, h4⟩ := HH.out
            refine (dBits_any w0 W gr gs gp q L bad' T D V (l0 : Int) (k0 : Int) n (h1.keep hW)).mono ?_
            rintro e w' ⟨x, p2, bad2, q1, q2, q3, q4, q5⟩
            have hY : x * 2 ^ k0 % 18446744073709551616 < 18446744073709551616 := Nat.mod_lt _ (by decide)
            refine ⟨x, x * 2 ^ k0 % 18446744073709551616, V ^^^ (x * 2 ^ k0 % 18446744073709551616), q1, ?_, ?_, ?_, q3.cells.1.2.1, q3.cells.2.2.2.1, q3.cells.2.2.2.2.1, q3.cells.2.2.2.2.2⟩
            · rw [IntKind.wrap_u64, show ((x : Int) * 2 ^ k0) = ((x * 2 ^ k0 : Nat) : Int) by rw [Int.natCast_mul, Int.natCast_pow]; rfl]
              omega
            · rw [xor_nat _ _ hV hY, Nat.xor_comm]
            · unfold VPost
              refine ⟨_, p2, bad2, (l0 : Int), (k0 : Int), rfl, xor_lt hV hY, q3, h2, fun hb st f1 wd p5 ho hv => ?_, h4.trans ((KeepT.of_none hW).trans q5)⟩
              obtain ⟨rfl, e1, e2, e3, e4, e5, v, e6, e7⟩ := h3 hb st f1 wd p5 ho hv
              unfold winL at e1
              unfold winK at e2
              rw [if_pos e3] at e1 e2
              have f1' : l0 = wd.2.1 := by omega
              have f2' : k0 = wd.2.2 := by omega
              have hMn := HMn.out
              have hnn : n.toNat = 64 - wd.2.1 - wd.2.2 := by omega
              have hq := (q4 (by omega) (by omega)).2 v p5 (by rw [hnn]; exact e6)
              obtain ⟨rfl, rfl, rfl⟩ := hq
              have hlt := (tkO_lt e6).1
              have hsm : x * 2 ^ k0 < 18446744073709551616 := by
                have h8 : x * 2 ^ k0 < 2 ^ (64 - wd.2.1 - wd.2.2) * 2 ^ k0 := Nat.mul_lt_mul_of_pos_right hlt (Nat.pow_pos (by decide))
                rw [← Nat.pow_add] at h8
                have h9 : 2 ^ (64 - wd.2.1 - wd.2.2 + k0) ≤ 2 ^ 64 := Nat.pow_le_pow_right (by decide) (by omega)
                have h10 : (2 : Nat) ^ 64 = 18446744073709551616 := by decide
                omega
              refine ⟨?_, rfl, rfl, ?_, ?_⟩
              · rw [Nat.mod_eq_of_lt hsm, e7, f2']
              · unfold winL; rw [if_pos e3]; exact e1
              · unfold winK; rw [if_pos e3]; exact e2
          clear hMb hnb
          go_wp2_with fail
          go_region_held3 (fun w' => w'.cell? ⟨gr, 1, none⟩ = some (.pointer (some ⟨gp, 0, none⟩)) ∧ w'.cell? ⟨gp, 2, none⟩ = some (.int .u64 (V : Int)) ∧ w'.cell? ⟨gp, 3, none⟩ = some (.int .i64 (l0 : Int)) ∧ w'.cell? ⟨gp, 4, none⟩ = some (.int .i64 (k0 : Int))) (go_keep)
            (first
              | (go_at_call 43; refine (HB.out _ ?_).mono ?_; (first | exact gb_drew _ _ | exact gb_refl _ _); rintro e w7 ⟨x, Y, Z, rfl, e1, e2, H7, y1, y2, y3, y4⟩))
          go_wp2
          go_ret
          exact H7.out
end Go.Proofs.YtkiefmhampfhoaaDoor
