/-
  The document's reader of a chunk: Says, time: the walks.
-/
import Derived.Test.YtkiefmhampfhoaaDoorGK
import Derived.Deep.CutBlock
namespace Go.Proofs.YtkiefmhampfhoaaDoor
open Go.RowKit

theorem says14_all (z : Nat) (hz : z < 18446744073709551616) (w : World) : Calls Tryd.prog 70 #[.int .u64 (z : Int), .int .i64 14] w fun e w' => (∃ d : Int, e = .returned (.int .i64 d) ∧ (-9223372036854775808 ≤ d ∧ d ≤ 9223372036854775807) ∧ (z < 16384 → d = ofRk z 14)) ∧ w' = w := by
  by_cases h2 : (z : Int) ≤ 8192
  · have HE : Hid (∃ d : Int, Ending.returned (.int .i64 (z : Int)) = Ending.returned (.int .i64 d) ∧ (-9223372036854775808 ≤ d ∧ d ≤ 9223372036854775807) ∧ (z < 16384 → d = ofRk z 14)) := by
      refine ⟨(z : Int), rfl, by omega, fun _ => ?_⟩
      unfold ofRk
      rw [if_neg (by decide), if_neg (by rw [show (2 : Nat) ^ (14 - 1) = 8192 by decide]; omega)]
    have hz3 : (z : Int) < 9223372036854775808 := by omega
    go_enter Tryd.func70, Tryd.ntmps70
    go_wp2
    go_ret
    exact ⟨HE.out, rfl⟩
  · have HE : Hid (∃ d : Int, Ending.returned (.int .i64 (wrap64 (wrap64 (z : Int) - 16384))) = Ending.returned (.int .i64 d) ∧ (-9223372036854775808 ≤ d ∧ d ≤ 9223372036854775807) ∧ (z < 16384 → d = ofRk z 14)) := by
      refine ⟨_, rfl, ?_, fun hlt => ?_⟩
      · unfold wrap64; omega
      · unfold ofRk
        rw [if_neg (by decide), if_pos (by rw [show (2 : Nat) ^ (14 - 1) = 8192 by decide]; omega), show (2 : Nat) ^ 14 = 16384 by decide]
        unfold wrap64
        omega
    go_enter Tryd.func70, Tryd.ntmps70
    go_wp2
    go_ret
    exact ⟨HE.out, rfl⟩
theorem says17_all (z : Nat) (hz : z < 18446744073709551616) (w : World) : Calls Tryd.prog 70 #[.int .u64 (z : Int), .int .i64 17] w fun e w' => (∃ d : Int, e = .returned (.int .i64 d) ∧ (-9223372036854775808 ≤ d ∧ d ≤ 9223372036854775807) ∧ (z < 131072 → d = ofRk z 17)) ∧ w' = w := by
  by_cases h2 : (z : Int) ≤ 65536
  · have HE : Hid (∃ d : Int, Ending.returned (.int .i64 (z : Int)) = Ending.returned (.int .i64 d) ∧ (-9223372036854775808 ≤ d ∧ d ≤ 9223372036854775807) ∧ (z < 131072 → d = ofRk z 17)) := by
      refine ⟨(z : Int), rfl, by omega, fun _ => ?_⟩
      unfold ofRk
      rw [if_neg (by decide), if_neg (by rw [show (2 : Nat) ^ (17 - 1) = 65536 by decide]; omega)]
    have hz3 : (z : Int) < 9223372036854775808 := by omega
    go_enter Tryd.func70, Tryd.ntmps70
    go_wp2
    go_ret
    exact ⟨HE.out, rfl⟩
  · have HE : Hid (∃ d : Int, Ending.returned (.int .i64 (wrap64 (wrap64 (z : Int) - 131072))) = Ending.returned (.int .i64 d) ∧ (-9223372036854775808 ≤ d ∧ d ≤ 9223372036854775807) ∧ (z < 131072 → d = ofRk z 17)) := by
      refine ⟨_, rfl, ?_, fun hlt => ?_⟩
      · unfold wrap64; omega
      · unfold ofRk
        rw [if_neg (by decide), if_pos (by rw [show (2 : Nat) ^ (17 - 1) = 65536 by decide]; omega), show (2 : Nat) ^ 17 = 131072 by decide]
        unfold wrap64
        omega
    go_enter Tryd.func70, Tryd.ntmps70
    go_wp2
    go_ret
    exact ⟨HE.out, rfl⟩
theorem says20_all (z : Nat) (hz : z < 18446744073709551616) (w : World) : Calls Tryd.prog 70 #[.int .u64 (z : Int), .int .i64 20] w fun e w' => (∃ d : Int, e = .returned (.int .i64 d) ∧ (-9223372036854775808 ≤ d ∧ d ≤ 9223372036854775807) ∧ (z < 1048576 → d = ofRk z 20)) ∧ w' = w := by
  by_cases h2 : (z : Int) ≤ 524288
  · have HE : Hid (∃ d : Int, Ending.returned (.int .i64 (z : Int)) = Ending.returned (.int .i64 d) ∧ (-9223372036854775808 ≤ d ∧ d ≤ 9223372036854775807) ∧ (z < 1048576 → d = ofRk z 20)) := by
      refine ⟨(z : Int), rfl, by omega, fun _ => ?_⟩
      unfold ofRk
      rw [if_neg (by decide), if_neg (by rw [show (2 : Nat) ^ (20 - 1) = 524288 by decide]; omega)]
    have hz3 : (z : Int) < 9223372036854775808 := by omega
    go_enter Tryd.func70, Tryd.ntmps70
    go_wp2
    go_ret
    exact ⟨HE.out, rfl⟩
  · have HE : Hid (∃ d : Int, Ending.returned (.int .i64 (wrap64 (wrap64 (z : Int) - 1048576))) = Ending.returned (.int .i64 d) ∧ (-9223372036854775808 ≤ d ∧ d ≤ 9223372036854775807) ∧ (z < 1048576 → d = ofRk z 20)) := by
      refine ⟨_, rfl, ?_, fun hlt => ?_⟩
      · unfold wrap64; omega
      · unfold ofRk
        rw [if_neg (by decide), if_pos (by rw [show (2 : Nat) ^ (20 - 1) = 524288 by decide]; omega), show (2 : Nat) ^ 20 = 1048576 by decide]
        unfold wrap64
        omega
    go_enter Tryd.func70, Tryd.ntmps70
    go_wp2
    go_ret
    exact ⟨HE.out, rfl⟩

theorem says64_all (z : Nat) (_hz : z < 18446744073709551616) (w : World) : Calls Tryd.prog 70 #[.int .u64 (z : Int), .int .i64 64] w fun e w' => (∃ d : Int, e = .returned (.int .i64 d) ∧ (-9223372036854775808 ≤ d ∧ d ≤ 9223372036854775807) ∧ (z < 18446744073709551616 → d = ofRk z 64)) ∧ w' = w := by
  have HE : Hid (∃ d : Int, Ending.returned (.int .i64 (wrap64 (z : Int))) = Ending.returned (.int .i64 d) ∧ (-9223372036854775808 ≤ d ∧ d ≤ 9223372036854775807) ∧ (z < 18446744073709551616 → d = ofRk z 64)) := by
    refine ⟨_, rfl, ?_, fun _ => ?_⟩
    · unfold wrap64; omega
    · unfold ofRk
      rw [if_pos rfl]
  go_enter Tryd.func70, Tryd.ntmps70
  go_wp2
  go_ret
  exact ⟨HE.out, rfl⟩

theorem cellT {w w' : World} {b j : Nat} {A : Array Value} {t : TypeId} {v : Value} (h : w.heap[b]? = some (.cells A t (0, 0))) (hv : A[j]? = some v) (hk : KeepT tR w w') (ht : t ∉ tR) : w'.cell? ⟨b, j, none⟩ = some v := by
  have h2 := (hk.2 b _ _ _ h ht).trans h
  simp [World.cell?, h2, hv]

set_option maxRecDepth 8000 in
set_option maxHeartbeats 3200000 in
theorem dTurn_any (w0 w : World) (gr gs gp p : Nat) (L : List UInt8) (bad : Bool) (T D : Int) (V : Nat) (Ld K : Int) (h : DR w0 w gr gs gp L p bad T D V Ld K) :
    Calls Tryd.prog 45 #[.pointer (some ⟨gr, 0, none⟩)] w fun e w' => ∃ (d : Int) (p' : Nat) (bad' : Bool), e = .returned (.int .i64 d) ∧ (-9223372036854775808 ≤ d ∧ d ≤ 9223372036854775807) ∧ DR w0 w' gr gs gp L p' bad' T D V Ld K ∧ (bad = false → ∀ d1 p1, turnO L (8 * L.length) p = some (d1, p1) → d = d1 ∧ p' = p1 ∧ bad' = false) ∧ KeepT tR w w' := by
  have HR : Hid (DR w0 (w.alloc (.cells #[.int .i64 0, .int .i64 14, .int .i64 17, .int .i64 20, .int .i64 64] 3)) gr gs gp L p bad T D V Ld K ∧ (w.alloc (.cells #[.int .i64 0, .int .i64 14, .int .i64 17, .int .i64 20, .int .i64 64] 3)).heap[w.heap.size]? = some (.cells #[.int .i64 0, .int .i64 14, .int .i64 17, .int .i64 20, .int .i64 64] 3 (0, 0)) ∧ KeepT tR w (w.alloc (.cells #[.int .i64 0, .int .i64 14, .int .i64 17, .int .i64 20, .int .i64 64] 3))) := ⟨h.keep (alloc_gb _ _), Go.heap_alloc_new w _, KeepT.of_none (alloc_gb _ _)⟩
  clear h
  go_enter Tryd.func45, Tryd.ntmps45
  go_upto_block 0 with fail
  generalize w.alloc (.cells #[.int .i64 0, .int .i64 14, .int .i64 17, .int .i64 20, .int .i64 64] 3) = w1 at *
  generalize w.heap.size = b0 at *
  go_cut [4] from 6 (fun s wx => ∃ n : Nat, n ≤ 4 ∧ s = .int .i64 (n : Int) ∧ Hid (∃ q bad', DR w0 wx gr gs gp L q bad' T D V Ld K ∧ (bad = false → ∀ j p1, trnO L (8 * L.length) 4 p = some (j, p1) → bad' = false ∧ j = n ∧ p1 = q) ∧ KeepT tR w1 wx))
  case first =>
    go_wp2_with fail
    go_loopw [4] (fun i wr => ∃ n : Nat, n ≤ 4 ∧ i = .int .i64 (n : Int) ∧ Hid (∃ q bad', DR w0 wr gr gs gp L q bad' T D V Ld K ∧ (bad = false → ∀ j p1, trnO L (8 * L.length) 4 p = some (j, p1) → bad' = false ∧ ∃ j', j = n + j' ∧ trnO L (8 * L.length) (4 - n) q = some (j', p1)) ∧ KeepT tR w1 wr)) (fun i _ => 4 - (intOf i).toNat)
    case atStart => exact ⟨0, by omega, rfl, p, bad, HR.out.1, fun hb j p1 ht => ⟨hb, j, by omega, ht⟩, KeepT.refl _ _⟩
    case round =>
      obtain ⟨n, hn, rfl, hr⟩ := hrel
      obtain ⟨q, bad', h3, h4, h5⟩ := hr.out
      by_cases hlt : n < 4
      · have hlti : (n : Int) < 4 := by omega
        have HB := hidJ (dBits_any w0 wr gr gs gp q L bad' T D V Ld K 1 h3)
        have HH := hidJ (And.intro h4 h5)
        clear hr h3 h4 h5
        go_wp2_with fail
        refine HB.out.mono ?_
        rintro e w2 ⟨x, p2, bad2, rfl, hx, hD2, hex, hk2⟩
        have HEx : Hid (bad = false → ∀ j p1, trnO L (8 * L.length) 4 p = some (j, p1) → bad2 = false ∧ ((x = 1 ∧ ∃ j', j = (n + 1) + j' ∧ trnO L (8 * L.length) (4 - (n + 1)) p2 = some (j', p1)) ∨ (¬ x = 1 ∧ j = n ∧ p1 = p2))) := by
          intro hb j p1 ht
          obtain ⟨rfl, j', rfl, h6⟩ := HH.out.1 hb j p1 ht
          obtain ⟨k, hk⟩ : ∃ k, 4 - n = k + 1 := ⟨3 - n, by omega⟩
          have hk3 : 4 - (n + 1) = k := by omega
          rw [hk, trnO] at h6
          cases hq : tkO L (8 * L.length) q 1 with
          | none => rw [hq] at h6; cases h6
          | some y =>
            obtain ⟨x1, p3⟩ := y
            obtain ⟨rfl, rfl, rfl⟩ := (hex (by decide) (by decide)).2 x1 p3 hq
            rw [hq] at h6
            simp only at h6
            refine ⟨rfl, ?_⟩
            split at h6
            · rename_i hx1
              cases h7 : trnO L (8 * L.length) k p2 with
              | none => rw [h7] at h6; cases h6
              | some z =>
                obtain ⟨j2, p4⟩ := z
                rw [h7] at h6
                simp only [Option.some.injEq, Prod.mk.injEq] at h6
                exact .inl ⟨hx1, j2, by omega, by rw [hk3, h7, h6.2]⟩
            · rename_i hx1
              simp only [Option.some.injEq, Prod.mk.injEq] at h6
              exact .inr ⟨hx1, by omega, h6.2.symm⟩
        have H2 := hidJ (And.intro hD2 (HH.out.2.trans hk2))
        clear HB HH hD2 hex hk2
        by_cases hx1 : x = 1
        · subst hx1
          have HE : Hid (∃ q bad', DR w0 w2 gr gs gp L q bad' T D V Ld K ∧ (bad = false → ∀ j p1, trnO L (8 * L.length) 4 p = some (j, p1) → bad' = false ∧ ∃ j', j = (n + 1) + j' ∧ trnO L (8 * L.length) (4 - (n + 1)) q = some (j', p1)) ∧ KeepT tR w1 w2) := by
            refine ⟨p2, bad2, H2.out.1, fun hb j p1 ht => ?_, H2.out.2⟩
            obtain ⟨e1, ⟨-, e2⟩ | ⟨e2, -⟩⟩ := HEx.out hb j p1 ht
            · exact ⟨e1, e2⟩
            · exact absurd rfl e2
          clear HEx H2
          go_wp2
          go_roundw
          case rel => exact ⟨n + 1, by omega, by go_num, HE⟩
          case measure => simp [intOf]; omega
        · have hxb : ((x : Int) == 1) = false := by rw [beq_eq_false_iff_ne]; omega
          have HE : Hid (∃ q bad', DR w0 w2 gr gs gp L q bad' T D V Ld K ∧ (bad = false → ∀ j p1, trnO L (8 * L.length) 4 p = some (j, p1) → bad' = false ∧ j = n ∧ p1 = q) ∧ KeepT tR w1 w2) := by
            refine ⟨p2, bad2, H2.out.1, fun hb j p1 ht => ?_, H2.out.2⟩
            obtain ⟨e1, ⟨e2, -⟩ | ⟨-, e2, e3⟩⟩ := HEx.out hb j p1 ht
            · exact absurd e2 hx1
            · exact ⟨e1, e2, e3⟩
          clear HEx H2
          go_wp2_with fail
          go_meet
          case rel => exact ⟨n, by omega, rfl, HE⟩
      · obtain rfl : n = 4 := by omega
        have HE : Hid (∃ q bad', DR w0 wr gr gs gp L q bad' T D V Ld K ∧ (bad = false → ∀ j p1, trnO L (8 * L.length) 4 p = some (j, p1) → bad' = false ∧ j = 4 ∧ p1 = q) ∧ KeepT tR w1 wr) := by
          refine ⟨q, bad', h3, fun hb j p1 ht => ?_, h5⟩
          obtain ⟨e1, j', rfl, e3⟩ := h4 hb j p1 ht
          simp only [Nat.sub_self, trnO, Option.some.injEq, Prod.mk.injEq] at e3
          exact ⟨e1, by omega, e3.2.symm⟩
        clear h3 h4 h5 hr
        go_wp2_with fail
        go_meet
        case rel => exact ⟨4, by omega, rfl, HE⟩
  case rest =>
    obtain ⟨n, hn, rfl, HC⟩ := hcut
    obtain ⟨q, bad', h3, h4, h5⟩ := HC.out
    have HH := hidJ (And.intro h3 (And.intro h4 h5))
    clear HC h3 h4 h5
    generalize wc = w4 at *
    rcases (show n = 0 ∨ n = 1 ∨ n = 2 ∨ n = 3 ∨ n = 4 by omega) with rfl | rfl | rfl | rfl | rfl
    · go_wp2
      go_ret
      obtain ⟨h3, h4, h5⟩ := HH.out
      refine ⟨0, q, bad', rfl, by omega, h3, fun hb d1 p1 ht => ?_, HR.out.2.2.trans h5⟩
      unfold turnO at ht
      cases h6 : trnO L (8 * L.length) 4 p with
      | none => rw [h6] at ht; cases ht
      | some y =>
        obtain ⟨j, p3⟩ := y
        rw [h6] at ht
        obtain ⟨rfl, rfl, rfl⟩ := h4 hb j p3 h6
        simp only at ht
        cases h7 : tkO L (8 * L.length) p3 (tw 0) with
        | none => rw [h7] at ht; cases ht
        | some z =>
          obtain ⟨v1, p4⟩ := z
          rw [h7] at ht
          simp only [Option.some.injEq, Prod.mk.injEq] at ht
          have hlt := tkO_lt h7
          have hv : v1 = 0 := by have := hlt.1; simp [tw] at this; exact this
          have hp : p4 = p3 := by have := hlt.2.1; simp [tw] at this; exact this
          subst hv
          subst hp
          exact ⟨by rw [← ht.1]; rfl, ht.2, rfl⟩
    · have HB : Hid (∀ W, w4.grownBy W none → Calls Tryd.prog 43 #[.pointer (some ⟨gr, 0, none⟩), .int .i64 14] W fun e w' => ∃ x : Nat, e = .returned (.int .u64 (x : Int)) ∧ x < 18446744073709551616 ∧ Hid (∃ p' bad2, DR w0 w' gr gs gp L p' bad2 T D V Ld K ∧ (bad = false → ∀ d1 p1, turnO L (8 * L.length) p = some (d1, p1) → x < 16384 ∧ d1 = ofRk x 14 ∧ p' = p1 ∧ bad2 = false) ∧ KeepT tR w1 w') ∧ w'.cell? ⟨b0, 1, none⟩ = some (.int .i64 14)) := fun W hW => by
        obtain ⟨h3, h4, h5⟩ := HH.out
        refine (dBits_any w0 W gr gs gp q L bad' T D V Ld K 14 (h3.keep hW)).mono ?_
        rintro e w' ⟨x, p2, bad2, q1, q2, q3, q4, q5⟩
        have hk := h5.trans ((KeepT.of_none hW).trans q5)
        refine ⟨x, q1, q2, ⟨p2, bad2, q3, fun hb d1 p1 ht => ?_, hk⟩, cellT HR.out.2.1 rfl hk (by decide)⟩
        unfold turnO at ht
        cases h6 : trnO L (8 * L.length) 4 p with
        | none => rw [h6] at ht; cases ht
        | some y =>
          obtain ⟨j, p3⟩ := y
          rw [h6] at ht
          obtain ⟨rfl, rfl, rfl⟩ := h4 hb j p3 h6
          simp only at ht
          cases h7 : tkO L (8 * L.length) p3 (tw 1) with
          | none => rw [h7] at ht; cases ht
          | some z =>
            obtain ⟨v1, p4⟩ := z
            rw [h7] at ht
            simp only [Option.some.injEq, Prod.mk.injEq] at ht
            have hlt := (tkO_lt h7).1
            obtain ⟨rfl, rfl, rfl⟩ := (q4 (by decide) (by decide)).2 v1 p4 h7
            exact ⟨by simpa [tw] using hlt, ht.1.symm, ht.2, rfl⟩
      have x0 : w4.cell? ⟨b0, 1, none⟩ = some (.int .i64 14) := cellT HR.out.2.1 rfl HH.out.2.2 (by decide)
      have HSy : Hid (∀ (z : Nat) W, z < 18446744073709551616 → W.cell? ⟨b0, 1, none⟩ = some (.int .i64 14) → Calls Tryd.prog 70 #[.int .u64 (z : Int), .int .i64 14] W fun e w' => ∃ d : Int, e = .returned (.int .i64 d) ∧ Hid ((-9223372036854775808 ≤ d ∧ d ≤ 9223372036854775807) ∧ (z < 16384 → d = ofRk z 14)) ∧ w' = W ∧ w'.cell? ⟨b0, 1, none⟩ = some (.int .i64 14)) := fun z W hz hc => by
        refine (says14_all z hz W).mono ?_
        rintro e w' ⟨⟨d, q1, q2, q3⟩, q4⟩
        subst q4
        exact ⟨d, q1, ⟨q2, q3⟩, rfl, hc⟩
      go_wp2_with fail
      go_region_held3 (fun w' => w'.cell? ⟨b0, 1, none⟩ = some (.int .i64 14)) (go_keep)
        (first
          | (go_at_call 43; refine (HB.out _ ?_).mono ?_; (first | exact gb_drew _ _ | exact gb_refl _ _); rintro e w5 ⟨x, rfl, hx, H5, y5⟩)
          | (go_at_call 70; refine (HSy.out _ _ hx y5).mono ?_; rintro e w6 ⟨d, rfl, H6, rfl, y6⟩))
      go_wp2
      go_ret
      obtain ⟨p', bad2, e1, e2, e3⟩ := H5.out
      exact ⟨d, p', bad2, rfl, H6.out.1, e1, fun hb d1 p1 ht => (by
        obtain ⟨f1, f2, f3, f4⟩ := e2 hb d1 p1 ht
        exact ⟨(H6.out.2 f1).trans f2.symm, f3, f4⟩), HR.out.2.2.trans e3⟩
    · have HB : Hid (∀ W, w4.grownBy W none → Calls Tryd.prog 43 #[.pointer (some ⟨gr, 0, none⟩), .int .i64 17] W fun e w' => ∃ x : Nat, e = .returned (.int .u64 (x : Int)) ∧ x < 18446744073709551616 ∧ Hid (∃ p' bad2, DR w0 w' gr gs gp L p' bad2 T D V Ld K ∧ (bad = false → ∀ d1 p1, turnO L (8 * L.length) p = some (d1, p1) → x < 131072 ∧ d1 = ofRk x 17 ∧ p' = p1 ∧ bad2 = false) ∧ KeepT tR w1 w') ∧ w'.cell? ⟨b0, 2, none⟩ = some (.int .i64 17)) := fun W hW => by
        obtain ⟨h3, h4, h5⟩ := HH.out
        refine (dBits_any w0 W gr gs gp q L bad' T D V Ld K 17 (h3.keep hW)).mono ?_
        rintro e w' ⟨x, p2, bad2, q1, q2, q3, q4, q5⟩
        have hk := h5.trans ((KeepT.of_none hW).trans q5)
        refine ⟨x, q1, q2, ⟨p2, bad2, q3, fun hb d1 p1 ht => ?_, hk⟩, cellT HR.out.2.1 rfl hk (by decide)⟩
        unfold turnO at ht
        cases h6 : trnO L (8 * L.length) 4 p with
        | none => rw [h6] at ht; cases ht
        | some y =>
          obtain ⟨j, p3⟩ := y
          rw [h6] at ht
          obtain ⟨rfl, rfl, rfl⟩ := h4 hb j p3 h6
          simp only at ht
          cases h7 : tkO L (8 * L.length) p3 (tw 2) with
          | none => rw [h7] at ht; cases ht
          | some z =>
            obtain ⟨v1, p4⟩ := z
            rw [h7] at ht
            simp only [Option.some.injEq, Prod.mk.injEq] at ht
            have hlt := (tkO_lt h7).1
            obtain ⟨rfl, rfl, rfl⟩ := (q4 (by decide) (by decide)).2 v1 p4 h7
            exact ⟨by simpa [tw] using hlt, ht.1.symm, ht.2, rfl⟩
      have x0 : w4.cell? ⟨b0, 2, none⟩ = some (.int .i64 17) := cellT HR.out.2.1 rfl HH.out.2.2 (by decide)
      have HSy : Hid (∀ (z : Nat) W, z < 18446744073709551616 → W.cell? ⟨b0, 2, none⟩ = some (.int .i64 17) → Calls Tryd.prog 70 #[.int .u64 (z : Int), .int .i64 17] W fun e w' => ∃ d : Int, e = .returned (.int .i64 d) ∧ Hid ((-9223372036854775808 ≤ d ∧ d ≤ 9223372036854775807) ∧ (z < 131072 → d = ofRk z 17)) ∧ w' = W ∧ w'.cell? ⟨b0, 2, none⟩ = some (.int .i64 17)) := fun z W hz hc => by
        refine (says17_all z hz W).mono ?_
        rintro e w' ⟨⟨d, q1, q2, q3⟩, q4⟩
        subst q4
        exact ⟨d, q1, ⟨q2, q3⟩, rfl, hc⟩
      go_wp2_with fail
      go_region_held3 (fun w' => w'.cell? ⟨b0, 2, none⟩ = some (.int .i64 17)) (go_keep)
        (first
          | (go_at_call 43; refine (HB.out _ ?_).mono ?_; (first | exact gb_drew _ _ | exact gb_refl _ _); rintro e w5 ⟨x, rfl, hx, H5, y5⟩)
          | (go_at_call 70; refine (HSy.out _ _ hx y5).mono ?_; rintro e w6 ⟨d, rfl, H6, rfl, y6⟩))
      go_wp2
      go_ret
      obtain ⟨p', bad2, e1, e2, e3⟩ := H5.out
      exact ⟨d, p', bad2, rfl, H6.out.1, e1, fun hb d1 p1 ht => (by
        obtain ⟨f1, f2, f3, f4⟩ := e2 hb d1 p1 ht
        exact ⟨(H6.out.2 f1).trans f2.symm, f3, f4⟩), HR.out.2.2.trans e3⟩
    · have HB : Hid (∀ W, w4.grownBy W none → Calls Tryd.prog 43 #[.pointer (some ⟨gr, 0, none⟩), .int .i64 20] W fun e w' => ∃ x : Nat, e = .returned (.int .u64 (x : Int)) ∧ x < 18446744073709551616 ∧ Hid (∃ p' bad2, DR w0 w' gr gs gp L p' bad2 T D V Ld K ∧ (bad = false → ∀ d1 p1, turnO L (8 * L.length) p = some (d1, p1) → x < 1048576 ∧ d1 = ofRk x 20 ∧ p' = p1 ∧ bad2 = false) ∧ KeepT tR w1 w') ∧ w'.cell? ⟨b0, 3, none⟩ = some (.int .i64 20)) := fun W hW => by
        obtain ⟨h3, h4, h5⟩ := HH.out
        refine (dBits_any w0 W gr gs gp q L bad' T D V Ld K 20 (h3.keep hW)).mono ?_
        rintro e w' ⟨x, p2, bad2, q1, q2, q3, q4, q5⟩
        have hk := h5.trans ((KeepT.of_none hW).trans q5)
        refine ⟨x, q1, q2, ⟨p2, bad2, q3, fun hb d1 p1 ht => ?_, hk⟩, cellT HR.out.2.1 rfl hk (by decide)⟩
        unfold turnO at ht
        cases h6 : trnO L (8 * L.length) 4 p with
        | none => rw [h6] at ht; cases ht
        | some y =>
          obtain ⟨j, p3⟩ := y
          rw [h6] at ht
          obtain ⟨rfl, rfl, rfl⟩ := h4 hb j p3 h6
          simp only at ht
          cases h7 : tkO L (8 * L.length) p3 (tw 3) with
          | none => rw [h7] at ht; cases ht
          | some z =>
            obtain ⟨v1, p4⟩ := z
            rw [h7] at ht
            simp only [Option.some.injEq, Prod.mk.injEq] at ht
            have hlt := (tkO_lt h7).1
            obtain ⟨rfl, rfl, rfl⟩ := (q4 (by decide) (by decide)).2 v1 p4 h7
            exact ⟨by simpa [tw] using hlt, ht.1.symm, ht.2, rfl⟩
      have x0 : w4.cell? ⟨b0, 3, none⟩ = some (.int .i64 20) := cellT HR.out.2.1 rfl HH.out.2.2 (by decide)
      have HSy : Hid (∀ (z : Nat) W, z < 18446744073709551616 → W.cell? ⟨b0, 3, none⟩ = some (.int .i64 20) → Calls Tryd.prog 70 #[.int .u64 (z : Int), .int .i64 20] W fun e w' => ∃ d : Int, e = .returned (.int .i64 d) ∧ Hid ((-9223372036854775808 ≤ d ∧ d ≤ 9223372036854775807) ∧ (z < 1048576 → d = ofRk z 20)) ∧ w' = W ∧ w'.cell? ⟨b0, 3, none⟩ = some (.int .i64 20)) := fun z W hz hc => by
        refine (says20_all z hz W).mono ?_
        rintro e w' ⟨⟨d, q1, q2, q3⟩, q4⟩
        subst q4
        exact ⟨d, q1, ⟨q2, q3⟩, rfl, hc⟩
      go_wp2_with fail
      go_region_held3 (fun w' => w'.cell? ⟨b0, 3, none⟩ = some (.int .i64 20)) (go_keep)
        (first
          | (go_at_call 43; refine (HB.out _ ?_).mono ?_; (first | exact gb_drew _ _ | exact gb_refl _ _); rintro e w5 ⟨x, rfl, hx, H5, y5⟩)
          | (go_at_call 70; refine (HSy.out _ _ hx y5).mono ?_; rintro e w6 ⟨d, rfl, H6, rfl, y6⟩))
      go_wp2
      go_ret
      obtain ⟨p', bad2, e1, e2, e3⟩ := H5.out
      exact ⟨d, p', bad2, rfl, H6.out.1, e1, fun hb d1 p1 ht => (by
        obtain ⟨f1, f2, f3, f4⟩ := e2 hb d1 p1 ht
        exact ⟨(H6.out.2 f1).trans f2.symm, f3, f4⟩), HR.out.2.2.trans e3⟩
    · have HB : Hid (∀ W, w4.grownBy W none → Calls Tryd.prog 43 #[.pointer (some ⟨gr, 0, none⟩), .int .i64 64] W fun e w' => ∃ x : Nat, e = .returned (.int .u64 (x : Int)) ∧ x < 18446744073709551616 ∧ Hid (∃ p' bad2, DR w0 w' gr gs gp L p' bad2 T D V Ld K ∧ (bad = false → ∀ d1 p1, turnO L (8 * L.length) p = some (d1, p1) → x < 18446744073709551616 ∧ d1 = ofRk x 64 ∧ p' = p1 ∧ bad2 = false) ∧ KeepT tR w1 w') ∧ w'.cell? ⟨b0, 4, none⟩ = some (.int .i64 64)) := fun W hW => by
        obtain ⟨h3, h4, h5⟩ := HH.out
        refine (dBits_any w0 W gr gs gp q L bad' T D V Ld K 64 (h3.keep hW)).mono ?_
        rintro e w' ⟨x, p2, bad2, q1, q2, q3, q4, q5⟩
        have hk := h5.trans ((KeepT.of_none hW).trans q5)
        refine ⟨x, q1, q2, ⟨p2, bad2, q3, fun hb d1 p1 ht => ?_, hk⟩, cellT HR.out.2.1 rfl hk (by decide)⟩
        unfold turnO at ht
        cases h6 : trnO L (8 * L.length) 4 p with
        | none => rw [h6] at ht; cases ht
        | some y =>
          obtain ⟨j, p3⟩ := y
          rw [h6] at ht
          obtain ⟨rfl, rfl, rfl⟩ := h4 hb j p3 h6
          simp only at ht
          cases h7 : tkO L (8 * L.length) p3 (tw 4) with
          | none => rw [h7] at ht; cases ht
          | some z =>
            obtain ⟨v1, p4⟩ := z
            rw [h7] at ht
            simp only [Option.some.injEq, Prod.mk.injEq] at ht
            have hlt := (tkO_lt h7).1
            obtain ⟨rfl, rfl, rfl⟩ := (q4 (by decide) (by decide)).2 v1 p4 h7
            exact ⟨by simpa [tw] using hlt, ht.1.symm, ht.2, rfl⟩
      have x0 : w4.cell? ⟨b0, 4, none⟩ = some (.int .i64 64) := cellT HR.out.2.1 rfl HH.out.2.2 (by decide)
      have HSy : Hid (∀ (z : Nat) W, z < 18446744073709551616 → W.cell? ⟨b0, 4, none⟩ = some (.int .i64 64) → Calls Tryd.prog 70 #[.int .u64 (z : Int), .int .i64 64] W fun e w' => ∃ d : Int, e = .returned (.int .i64 d) ∧ Hid ((-9223372036854775808 ≤ d ∧ d ≤ 9223372036854775807) ∧ (z < 18446744073709551616 → d = ofRk z 64)) ∧ w' = W ∧ w'.cell? ⟨b0, 4, none⟩ = some (.int .i64 64)) := fun z W hz hc => by
        refine (says64_all z hz W).mono ?_
        rintro e w' ⟨⟨d, q1, q2, q3⟩, q4⟩
        subst q4
        exact ⟨d, q1, ⟨q2, q3⟩, rfl, hc⟩
      go_wp2_with fail
      go_region_held3 (fun w' => w'.cell? ⟨b0, 4, none⟩ = some (.int .i64 64)) (go_keep)
        (first
          | (go_at_call 43; refine (HB.out _ ?_).mono ?_; (first | exact gb_drew _ _ | exact gb_refl _ _); rintro e w5 ⟨x, rfl, hx, H5, y5⟩)
          | (go_at_call 70; refine (HSy.out _ _ hx y5).mono ?_; rintro e w6 ⟨d, rfl, H6, rfl, y6⟩))
      go_wp2
      go_ret
      obtain ⟨p', bad2, e1, e2, e3⟩ := H5.out
      exact ⟨d, p', bad2, rfl, H6.out.1, e1, fun hb d1 p1 ht => (by
        obtain ⟨f1, f2, f3, f4⟩ := e2 hb d1 p1 ht
        exact ⟨(H6.out.2 f1).trans f2.symm, f3, f4⟩), HR.out.2.2.trans e3⟩

end Go.Proofs.YtkiefmhampfhoaaDoor
