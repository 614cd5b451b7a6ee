/-
  BitsBack is true for every input: what was written is read again by the same calls, and nothing is left.
-/
import Derived.Test.YtgbpnkamamafjabDoorBitsO
namespace Go.Proofs.YtgbpnkamamafjabDoor
open Go.ChangeShapes Go.WideShapes Go.ChangeAt Go.RowKit

set_option maxRecDepth 8000 in
set_option maxHeartbeats 25600000 in
theorem back_walk (v : Value) (ops : List OpT) (w : World) (hv : OpsIn w v ops) (hB : ∀ j, j < ops.length → -9223372036854775808 ≤ (ops.getD j opZ).i ∧ (ops.getD j opZ).i ≤ 9223372036854775807) (hT : TabW w) :
    Calls Tryd.prog 5 #[v] w fun e w' => e = .returned (.bool true) ∧ Below w.heap.size w w' := by
  have HV : Hid (OpsIn w v ops) := hv
  have HBD : Hid (∀ j, j < ops.length → -9223372036854775808 ≤ (ops.getD j opZ).i ∧ (ops.getD j opZ).i ≤ 9223372036854775807) := hB
  have HT : Hid (TabW w) := hT
  obtain ⟨a, c, hvv, hml, -⟩ := hv
  subst hvv
  clear hT hml hB
  go_enter Tryd.func5, Tryd.ntmps5
  go_wp2_with fail
  refine (newN w _ (gb_refl _ _)).mono ?_
  rintro e w1 ⟨gw, rfl, hw1, -⟩
  have H1 : Hid (WN w w1 gw []) := hw1
  clear hw1
  go_wp2
  go_loopw [4, 21] (fun kv i wr => ∃ m : Nat, m ≤ ops.length ∧ m ≤ 500 ∧ i = .int .i64 (m : Int) ∧ Hid (∃ ks, OwnO wr w.heap.size kv ks ∧ WN w wr gw (encs ks) ∧ (∀ o ∈ ks, Good o) ∧ ks.length ≤ m)) (fun _ i _ => ops.length - (intOf i).toNat)
  case atStart => exact ⟨0, by omega, by omega, rfl, [], OwnO.nil _ _, H1.out, by simp, by simp⟩
  case round =>
    obtain ⟨m, hm, hm5, rfl, hr⟩ := hrel
    obtain ⟨ks, hko, hkw, hkg, hkl⟩ := hr.out
    have HB0 : Hid (OwnO wr w.heap.size u4 ks ∧ WN w wr gw (encs ks) ∧ (∀ o ∈ ks, Good o) ∧ ks.length ≤ m) := ⟨hko, hkw, hkg, hkl⟩
    clear hr hko hkw hkg hkl H1
    by_cases hmL : m < ops.length
    · have hop := (HV.out.keep HB0.out.2.1.2.1)
      obtain ⟨a', c', hv', hml, hcells⟩ := hop
      simp only [Value.slice.injEq, true_and] at hv'
      obtain ⟨rfl, rfl⟩ := hv'
      obtain ⟨b, o, rfl, c0, c1, c2, c3⟩ := hcells m hmL
      have hbd := HBD.out m hmL
      have HBI : Hid (-9223372036854775808 ≤ (ops.getD m opZ).i ∧ (ops.getD m opZ).i ≤ 9223372036854775807) := hbd
      clear hcells hbd
      generalize ops.getD m opZ = op at *
      obtain ⟨ok, ox, on, oi⟩ := op
      simp only at c0 c1 c2 c3 HBI
      by_cases h500 : (500 : Int) ≤ (m : Int)
      · have HB : Hid (OwnO (wr.alloc (.cells #[.int .i64 ok, .int .u64 (I64 ox), .int .i64 on, .int .i64 oi] 31)) w.heap.size u4 ks ∧ WN w (wr.alloc (.cells #[.int .i64 ok, .int .u64 (I64 ox), .int .i64 on, .int .i64 oi] 31)) gw (encs ks) ∧ (∀ o ∈ ks, Good o) ∧ ks.length ≤ 500) := ⟨HB0.out.1.keep (alloc_gb _ _), HB0.out.2.1.keep (alloc_gb _ _), HB0.out.2.2.1, Nat.le_trans HB0.out.2.2.2 hm5⟩
        clear HB0
        go_wp2_with fail
        generalize wr.alloc (.cells #[.int .i64 ok, .int .u64 (I64 ox), .int .i64 on, .int .i64 oi] 31) = WB at *
        go_wp2_with fail
        refine (wbytesN w _ gw _ HB.out.2.1 (by have := encs_le ks HB.out.2.2.1; have := HB.out.2.2.2; omega)).mono ?_
        rintro e w3 ⟨v3, rfl, ho3, hg3⟩
        have H3 : Hid (WN w w3 gw (encs ks) ∧ OwnO w3 w.heap.size u4 ks ∧ Rd w3 v3 (pack (encs ks))) := ⟨HB.out.2.1.keep hg3, HB.out.1.keep hg3, ho3.rd⟩
        clear ho3 hg3
        go_wp2_with fail
        refine (wlenN w _ gw _ H3.out.1).mono ?_
        rintro e w4 ⟨rfl, rfl⟩
        go_wp2_with fail
        refine (newReader_ok w _ (pack (encs ks)) (encs ks).length _ H3.out.2.2 H3.out.1.2.1 (by have := encs_le ks HB.out.2.2.1; have := HB.out.2.2.2; omega) (by rw [pack_len]; omega)).mono ?_
        rintro e w5 ⟨gr, rfl, hr5, hg5, -⟩
        have htk : (pack (encs ks)).take (((encs ks).length + 7) / 8) = pack (encs ks) := List.take_of_length_le (by rw [pack_len]; omega)
        rw [htk] at hr5
        have H5 : Hid (RN w w5 gr (pack (encs ks)) 0 (encs ks).length ∧ OwnO w5 w.heap.size u4 ks) := ⟨hr5, H3.out.2.1.keep hg5⟩
        have HGood : Hid (∀ o ∈ ks, Good o) := HB.out.2.2.1
        have hks : ks.length ≤ 500 := HB.out.2.2.2
        clear hr5 hg5 htk H3 HB
        obtain ⟨ka, kc, hkv⟩ := H5.out.2.shape
        subst hkv
        go_wp2
        go_loopw [86] (fun i wr => ∃ j : Nat, j ≤ ks.length ∧ i = .int .i64 (j : Int) ∧ Hid (RN w wr gr (pack (encs ks)) (encs (ks.take j)).length (encs ks).length ∧ OwnO wr w.heap.size (.slice ka ks.length kc) ks)) (fun i _ => ks.length - (intOf i).toNat)
        case atStart => exact ⟨0, by omega, rfl, H5⟩
        case round =>
          obtain ⟨j, hj, rfl, hr⟩ := hrel
          by_cases hjl : j < ks.length
          · obtain ⟨gk, cap', hkv, hcells⟩ := hr.out.2.form (by rintro rfl; simp at hjl)
            simp only [Value.slice.injEq, true_and] at hkv
            obtain ⟨rfl, rfl⟩ := hkv
            obtain ⟨q0, q1, q2, q3⟩ := hcells j hjl
            have hat := encs_at hjl
            have hgood := HGood.out (ks.getD j opZ) (by simp [List.getD, hjl])
            have HA : Hid (At (pack (encs ks)) (encs (ks.take j)).length (encs ks).length (enc (ks.getD j opZ)) ∧ (encs (ks.take (j + 1))).length = (encs (ks.take j)).length + (enc (ks.getD j opZ)).length) := ⟨hat.1, by rw [hat.2, List.length_append]⟩
            have HG : Hid (Good (ks.getD j opZ)) := hgood
            have HH : Hid (∀ O, RN w (wr.alloc O) gr (pack (encs ks)) (encs (ks.take j)).length (encs ks).length ∧ OwnO (wr.alloc O) w.heap.size (.slice (some ⟨gk, 0, none⟩) ks.length kc) ks) := fun O => ⟨hr.out.1.keep (alloc_gb _ _), hr.out.2.keep (alloc_gb _ _)⟩
            have HF : Hid (∀ w1 w2, OwnO w1 w.heap.size (.slice (some ⟨gk, 0, none⟩) ks.length kc) ks → RN w w1 gr (pack (encs ks)) (encs (ks.take j)).length (encs ks).length → w1.grownBy w2 (some gr) → OwnO w2 w.heap.size (.slice (some ⟨gk, 0, none⟩) ks.length kc) ks) := fun w1 w2 ho hn hg => by
              refine World.ownsRow.kept ho hg (.inr ?_)
              intro e
              simp only [Value.ownBlock, Option.some.injEq] at e
              obtain ⟨gb, c, g1, g2, g3⟩ := hn.here
              rcases ho.2 with ⟨h8, _⟩ | ⟨g4, cap4, cur4, h8, _, hh4, _⟩
              · cases h8
              · simp only [Value.slice.injEq, Option.some.injEq, Addr.mk.injEq] at h8
                obtain ⟨⟨rfl, -, -⟩, -, -⟩ := h8
                unfold Rr at g2
                rw [← e, hh4] at g2
                simp at g2
            clear hcells hat hgood hr
            generalize hEN : encs (ks.take (j + 1)) = EN at *
            have HEN : Hid (encs (ks.take (j + 1)) = EN) := hEN
            clear hEN
            generalize encs (ks.take j) = EP at *
            generalize ks.getD j opZ = op at *
            obtain ⟨ok, ox, on, oi⟩ := op
            simp only at q0 q1 q2 q3
            by_cases k0 : ok = 0
            · subst k0
              have hE : enc ⟨0, ox, on, oi⟩ = [on.tmod 2 != 0] := if_pos rfl
              have hps : EP.length < (encs ks).length := by have := HA.out.1.1; rw [hE] at this; simp at this; omega
              have HU : Hid (ubit (pack (encs ks)) EP.length = (on.tmod 2 != 0)) := by show ubit (pack (encs ks)) EP.length = (on.tmod 2 != 0); have := HA.out.1.2 0 (by rw [hE]; simp); rw [hE] at this; simpa using this
              have HC : Hid (∀ w1, RN w w1 gr (pack (encs ks)) EP.length (encs ks).length → Calls Tryd.prog 20 #[.pointer (some ⟨gr, 0, none⟩)] w1 fun e w2 => e = .returned (.tuple #[.bool (on.tmod 2 != 0), .int .i64 0]) ∧ RN w w2 gr (pack (encs ks)) EN.length (encs ks).length ∧ w1.grownBy w2 (some gr)) := fun w1 hn => by
                have := rbitN w w1 gr EP.length (encs ks).length (pack (encs ks)) hn
                rw [if_pos hps, if_pos hps, if_pos hps, HU.out] at this
                have e1 : EN.length = EP.length + 1 := by rw [HA.out.2, hE]; rfl
                rw [e1]
                exact this
              clear hE hps HU
              go_wp2_with fail
              refine (HC.out _ (HH.out _).1).mono ?_
              rintro e w6 ⟨rfl, hr6, hg6⟩
              have H6 : Hid (RN w w6 gr (pack (encs ks)) EN.length (encs ks).length ∧ OwnO w6 w.heap.size (.slice (some ⟨gk, 0, none⟩) ks.length kc) ks) := ⟨hr6, HF.out _ _ (HH.out _).2 (HH.out _).1 hg6⟩
              have hbx : w6.cell? ⟨wr.heap.size, 2, none⟩ = some (.int .i64 on) := by
                have hne : wr.heap.size ≠ gr := by
                  obtain ⟨gb, c, g1, g2, g3⟩ := (HH.out (.cells #[.int .i64 0, .int .u64 (I64 ox), .int .i64 on, .int .i64 oi] 31)).1.here
                  intro e
                  have h9 := Go.heap_alloc_new wr (.cells #[.int .i64 0, .int .u64 (I64 ox), .int .i64 on, .int .i64 oi] 31)
                  unfold Rr at g2
                  rw [← e, h9] at g2
                  simp at g2
                rw [World.cell?_of_block (hg6.block wr.heap.size (by simp) (by simpa using hne)), World.cell?_alloc_at _ _ _ _ rfl]
                rfl
              clear hr6 hg6 HC
              generalize hb2 : (on.tmod 2 != 0) = BB at *
              go_wp2
              go_roundw
              case rel => exact ⟨j + 1, by omega, by go_num, by rw [HEN.out]; exact H6⟩
              case measure => simp [intOf]; omega
            · by_cases k1 : ok = 1
              · subst k1
                have hE : enc ⟨1, ox, on, oi⟩ = bitsOf ox.toNat on.toNat := by unfold enc; rw [if_neg (by simp), if_pos rfl]
                have hnb : ¬ bBad ox on := by
                  rcases HG.out.1 with h | ⟨_, h⟩ | h
                  · simp at h
                  · exact h
                  · simp at h
                have hnb2 := hnb
                unfold bBad at hnb2
                obtain ⟨nn, rfl⟩ := Int.eq_ofNat_of_zero_le (show 0 ≤ on by omega)
                rw [Int.toNat_natCast] at hnb2 hE
                have hxx : ox.toNat < 2 ^ nn := by
                  by_cases hx : ox.toNat < 2 ^ nn
                  · exact hx
                  · exact absurd (.inr (.inr ⟨by omega, by omega, hx⟩)) hnb2
                have HC : Hid (∀ w1, RN w w1 gr (pack (encs ks)) EP.length (encs ks).length → Calls Tryd.prog 21 #[.pointer (some ⟨gr, 0, none⟩), .int .i64 (nn : Int)] w1 fun e w2 => e = .returned (.tuple #[.int .u64 (I64 ox), .int .i64 0]) ∧ RN w w2 gr (pack (encs ks)) EN.length (encs ks).length ∧ w1.grownBy w2 (some gr)) := fun w1 hn => by
                  have hc := rbitsN w w1 gr EP.length (encs ks).length (pack (encs ks)) (nn : Int) hn
                  have hle := HA.out.1.1
                  rw [hE, bitsOf_len] at hle
                  have e1 : rCode (nn : Int) ((encs ks).length - EP.length) = 0 := by unfold rCode; rw [if_neg (by unfold rBad; omega), Int.toNat_natCast, if_neg (by omega)]
                  have hu := HA.out.1.ubits
                  rw [hE, bitsOf_len] at hu
                  have e2 : rVal (pack (encs ks)) EP.length (nn : Int) ((encs ks).length - EP.length) = ox.toNat := by unfold rVal; rw [if_pos e1, Int.toNat_natCast, hu, natOf_bitsOf, Nat.mod_eq_of_lt hxx]
                  have e3 : rAt EP.length (nn : Int) ((encs ks).length - EP.length) = EN.length := by unfold rAt; rw [if_pos e1, Int.toNat_natCast, HA.out.2, hE, bitsOf_len]
                  rw [e1, e2, e3] at hc
                  have e4 : BitVec.ofNat 64 ox.toNat = ox := by simp
                  rw [e4] at hc
                  exact hc
                clear hE hnb hnb2 hxx
                go_wp2_with fail
                refine (HC.out _ (HH.out _).1).mono ?_
                rintro e w6 ⟨rfl, hr6, hg6⟩
                have H6 : Hid (RN w w6 gr (pack (encs ks)) EN.length (encs ks).length ∧ OwnO w6 w.heap.size (.slice (some ⟨gk, 0, none⟩) ks.length kc) ks) := ⟨hr6, HF.out _ _ (HH.out _).2 (HH.out _).1 hg6⟩
                have hbx : w6.cell? ⟨wr.heap.size, 1, none⟩ = some (.int .u64 (I64 ox)) := by
                  have hne : wr.heap.size ≠ gr := by
                    obtain ⟨gb, c, g1, g2, g3⟩ := (HH.out (.cells #[.int .i64 1, .int .u64 (I64 ox), .int .i64 (nn : Int), .int .i64 oi] 31)).1.here
                    intro e
                    have h9 := Go.heap_alloc_new wr (.cells #[.int .i64 1, .int .u64 (I64 ox), .int .i64 (nn : Int), .int .i64 oi] 31)
                    unfold Rr at g2
                    rw [← e, h9] at g2
                    simp at g2
                  rw [World.cell?_of_block (hg6.block wr.heap.size (by simp) (by simpa using hne)), World.cell?_alloc_at _ _ _ _ rfl]
                  rfl
                clear hr6 hg6 HC
                go_wp2
                go_roundw
                case rel => exact ⟨j + 1, by omega, by go_num, by rw [HEN.out]; exact H6⟩
                case measure => simp [intOf]; omega
              · have k2 : ok = 2 := by
                  rcases HG.out.1 with h | ⟨h, _⟩ | h
                  · exact absurd h k0
                  · exact absurd h k1
                  · exact h
                subst k2
                have hE : enc ⟨2, ox, on, oi⟩ = form oi (BitVec.ofInt 64 oi) := by unfold enc; rw [if_neg (by simp), if_neg (by simp)]
                have HC : Hid (∀ w1, RN w w1 gr (pack (encs ks)) EP.length (encs ks).length → Calls Tryd.prog 22 #[.pointer (some ⟨gr, 0, none⟩)] w1 fun e w2 => e = .returned (.tuple #[.int .i64 oi, .int .i64 0]) ∧ RN w w2 gr (pack (encs ks)) EN.length (encs ks).length ∧ w1.grownBy w2 (some gr)) := fun w1 hn => by
                  have hc := rintN w w1 gr EP.length (encs ks).length (pack (encs ks)) hn HT.out
                  have h1 := HA.out.1
                  rw [hE] at h1
                  have e1 := ri_at (wrap_u64 oi) HG.out.2.1 HG.out.2.2 h1
                  have e2 := HA.out.2
                  rw [hE] at e2
                  rw [e1, ← e2] at hc
                  exact hc
                clear hE
                go_wp2_with fail
                refine (HC.out _ (HH.out _).1).mono ?_
                rintro e w6 ⟨rfl, hr6, hg6⟩
                have H6 : Hid (RN w w6 gr (pack (encs ks)) EN.length (encs ks).length ∧ OwnO w6 w.heap.size (.slice (some ⟨gk, 0, none⟩) ks.length kc) ks) := ⟨hr6, HF.out _ _ (HH.out _).2 (HH.out _).1 hg6⟩
                have hbx : w6.cell? ⟨wr.heap.size, 3, none⟩ = some (.int .i64 oi) := by
                  have hne : wr.heap.size ≠ gr := by
                    obtain ⟨gb, c, g1, g2, g3⟩ := (HH.out (.cells #[.int .i64 2, .int .u64 (I64 ox), .int .i64 on, .int .i64 oi] 31)).1.here
                    intro e
                    have h9 := Go.heap_alloc_new wr (.cells #[.int .i64 2, .int .u64 (I64 ox), .int .i64 on, .int .i64 oi] 31)
                    unfold Rr at g2
                    rw [← e, h9] at g2
                    simp at g2
                  rw [World.cell?_of_block (hg6.block wr.heap.size (by simp) (by simpa using hne)), World.cell?_alloc_at _ _ _ _ rfl]
                  rfl
                clear hr6 hg6 HC
                go_wp2
                go_roundw
                case rel => exact ⟨j + 1, by omega, by go_num, by rw [HEN.out]; exact H6⟩
                case measure => simp [intOf]; omega
          · obtain rfl : j = ks.length := by omega
            have H6 : Hid (RN w wr gr (pack (encs ks)) (encs ks).length (encs ks).length) := by have := hr.out.1; rw [List.take_length] at this; exact this
            have hz : Hid ((((encs ks).length - (encs ks).length : Nat) : Int) = 0) := by show (((encs ks).length - (encs ks).length : Nat) : Int) = 0; omega
            clear hr
            go_wp2_with fail
            refine (leftN w _ gr _ _ _ H6.out).mono ?_
            rintro e w7 ⟨he, hg7⟩
            rw [hz.out] at he
            subst he
            have H7 : Hid (w.grownBy w7 none) := gb_none H6.out.kept hg7
            clear hg7
            go_wp2_with fail
            refine (awake_any _).mono ?_
            rintro e w8 ⟨rfl, hg8⟩
            have H8 : Hid (Below w.heap.size w w8) := gb_below (gb_none H7.out hg8)
            clear hg8
            go_wp2
            go_ret
            exact ⟨rfl, H8.out⟩
      · have hm6 : m + 1 ≤ 500 := by omega
        have HW : Hid (∀ w', WN w w' gw (encs ks) → OwnO w' w.heap.size u4 ks → w'.heap[wr.heap.size]? = some (.cells #[.int .i64 ok, .int .u64 (I64 ox), .int .i64 on, .int .i64 oi] 31 (0, 0)) → ∀ gs, SN w w' gs [] 0 → Calls Tryd.prog 9 #[.pointer (some ⟨gw, 0, none⟩), .pointer (some ⟨gs, 0, none⟩), .agg #[.int .i64 ok, .int .u64 (I64 ox), .int .i64 on, .int .i64 oi]] w' fun e w'' =>
            e = .returned (.bool (opCode ok ox on oi (BitVec.ofInt 64 oi) (encs ks).length == opCode ok ox on oi (BitVec.ofInt 64 oi) 0)) ∧ WN w w'' gw (opNew ok ox on oi (BitVec.ofInt 64 oi) (encs ks)) ∧ OwnO w'' w.heap.size u4 ks ∧ w''.heap[wr.heap.size]? = some (.cells #[.int .i64 ok, .int .u64 (I64 ox), .int .i64 on, .int .i64 oi] 31 (0, 0))) := by
          intro w' hw' hko' hbx gs hs'
          have hle := encs_le ks HB0.out.2.2.1
          have hlm := HB0.out.2.2.2
          refine (both_any w w' gw gs (encs ks) [] ok ox on oi (BitVec.ofInt 64 oi) hw' hs' HT.out (wrap_u64 oi) (by omega) (by simp)).mono ?_
          rintro e w'' ⟨he, h1, h2, hk⟩
          exact ⟨he, h1, hko'.keptT hk (by decide), (hk.2 _ _ _ _ hbx (by decide)).trans hbx⟩
        have HS : Hid (∀ w', WN w w' gw (encs ks) → SN w (w'.alloc (.cells #[.slice none 0 0, .int .i64 0] 28)) w'.heap.size [] 0) := fun w' hw' => ⟨hw'.2.1.size, gb_none hw'.2.1 (alloc_gb _ _), .slice none 0 0, ⟨Go.heap_alloc_new w' _, OwnB.nil _⟩, fun k hk => by simp [Value.ownBlock] at hk⟩
        have HA : Hid (OwnO (wr.alloc (.cells #[.int .i64 ok, .int .u64 (I64 ox), .int .i64 on, .int .i64 oi] 31)) w.heap.size u4 ks ∧ WN w (wr.alloc (.cells #[.int .i64 ok, .int .u64 (I64 ox), .int .i64 on, .int .i64 oi] 31)) gw (encs ks) ∧ (wr.alloc (.cells #[.int .i64 ok, .int .u64 (I64 ox), .int .i64 on, .int .i64 oi] 31)).heap[wr.heap.size]? = some (.cells #[.int .i64 ok, .int .u64 (I64 ox), .int .i64 on, .int .i64 oi] 31 (0, 0))) := ⟨HB0.out.1.keep (alloc_gb _ _), HB0.out.2.1.keep (alloc_gb _ _), Go.heap_alloc_new wr _⟩
        have HAA : Hid (OwnO ((wr.alloc (.cells #[.int .i64 ok, .int .u64 (I64 ox), .int .i64 on, .int .i64 oi] 31)).alloc (.cells #[.slice none 0 0, .int .i64 0] 28)) w.heap.size u4 ks ∧ WN w ((wr.alloc (.cells #[.int .i64 ok, .int .u64 (I64 ox), .int .i64 on, .int .i64 oi] 31)).alloc (.cells #[.slice none 0 0, .int .i64 0] 28)) gw (encs ks) ∧ ((wr.alloc (.cells #[.int .i64 ok, .int .u64 (I64 ox), .int .i64 on, .int .i64 oi] 31)).alloc (.cells #[.slice none 0 0, .int .i64 0] 28)).heap[wr.heap.size]? = some (.cells #[.int .i64 ok, .int .u64 (I64 ox), .int .i64 on, .int .i64 oi] 31 (0, 0)) ∧ SN w ((wr.alloc (.cells #[.int .i64 ok, .int .u64 (I64 ox), .int .i64 on, .int .i64 oi] 31)).alloc (.cells #[.slice none 0 0, .int .i64 0] 28)) (wr.heap.size + 1) [] 0) := by
          refine ⟨HA.out.1.keep (alloc_gb _ _), HA.out.2.1.keep (alloc_gb _ _), ?_, ?_⟩
          · rw [(alloc_gb (wr.alloc (.cells #[.int .i64 ok, .int .u64 (I64 ox), .int .i64 on, .int .i64 oi] 31)) (.cells #[.slice none 0 0, .int .i64 0] 28)).block wr.heap.size (by simp) (by simp)]
            exact HA.out.2.2
          · have := HS.out _ HA.out.2.1
            simpa using this
        have HGd : Hid ((∀ o ∈ ks, Good o) ∧ ks.length ≤ m ∧ (encs ks).length + 72 ≤ 8388608) := ⟨HB0.out.2.2.1, HB0.out.2.2.2, by have := encs_le ks HB0.out.2.2.1; have := HB0.out.2.2.2; omega⟩
        have HBase : Hid (w.heap.size ≤ wr.heap.size) := HB0.out.2.1.2.1.size
        clear HB0 HS HV
        by_cases kr : 0 ≤ ok ∧ ok ≤ 2
        · obtain ⟨kr0, kr2⟩ := kr
          by_cases hgo : ok = 1 ∧ bBad ox on
          · -- not kept, nothing was written
            obtain ⟨rfl, hbad⟩ := hgo
            have hoc : Hid (∀ L, opCode 1 ox on oi (BitVec.ofInt 64 oi) L = 1) := fun L => by unfold opCode; rw [if_neg (by simp), if_pos rfl]; exact if_pos hbad
            have hon : Hid (opNew 1 ox on oi (BitVec.ofInt 64 oi) (encs ks) = encs ks) := by show opNew 1 ox on oi (BitVec.ofInt 64 oi) (encs ks) = encs ks; unfold opNew; rw [if_neg (by simp), if_pos rfl]; unfold bNew; rw [if_neg]; unfold bCode; rw [if_pos hbad]; simp
            have hsh : Hid (0 ≤ on ∧ on ≤ 64 → (¬ on = 64 ∧ (I64 ox / 2 ^ on.toNat == 0) = false)) := by
              rintro ⟨h1, h2⟩
              rcases hbad with h | h | ⟨_, _, h3⟩
              · omega
              · omega
              · refine ⟨?_, by have := shr_some h3; simpa using this⟩
                intro he
                subst he
                exact absurd ox.isLt h3
            clear hbad
            go_wp2_with fail
            refine (HW.out _ HAA.out.2.1 HAA.out.1 HAA.out.2.2.1 _ HAA.out.2.2.2).mono ?_
            rintro e w2 ⟨he, hw2, ho2, hx2⟩
            rw [hoc.out, hoc.out, beq_self_eq_true] at he
            subst he
            rw [hon.out] at hw2
            have H2 : Hid (∃ ks, OwnO w2 w.heap.size u4 ks ∧ WN w w2 gw (encs ks) ∧ (∀ o ∈ ks, Good o) ∧ ks.length ≤ m + 1) := ⟨ks, ho2, hw2, HGd.out.1, by have := HGd.out.2.1; omega⟩
            have d0 : w2.cell? ⟨wr.heap.size, 0, none⟩ = some (.int .i64 1) := by simp [World.cell?, hx2]
            have d1 : w2.cell? ⟨wr.heap.size, 1, none⟩ = some (.int .u64 (I64 ox)) := by simp [World.cell?, hx2]
            have d2 : w2.cell? ⟨wr.heap.size, 2, none⟩ = some (.int .i64 on) := by simp [World.cell?, hx2]
            clear hw2 ho2 hx2 HAA HA HW hon hoc
            by_cases e0 : 0 ≤ on
            · by_cases e64 : on ≤ 64
              · obtain ⟨qn, rfl⟩ := Int.eq_ofNat_of_zero_le e0
                have hs1 := hsh.out ⟨e0, e64⟩
                rw [Int.toNat_natCast] at hs1
                have hs2 : ((qn : Int) == 64) = false := by simpa using hs1.1
                have hs3 := hs1.2
                clear hsh hs1
                go_wp2
                go_roundw
                case rel => exact ⟨m + 1, by omega, hm6, by go_num, H2⟩
                case measure => simp [intOf]; omega
              · clear hsh
                go_wp2
                go_roundw
                case rel => exact ⟨m + 1, by omega, hm6, by go_num, H2⟩
                case measure => simp [intOf]; omega
            · clear hsh
              go_wp2
              go_roundw
              case rel => exact ⟨m + 1, by omega, hm6, by go_num, H2⟩
              case measure => simp [intOf]; omega
          · have hG : Good ⟨ok, ox, on, oi⟩ := ⟨by
              show ok = 0 ∨ (ok = 1 ∧ ¬ bBad ox on) ∨ ok = 2
              by_cases h0 : ok = 0
              · exact .inl h0
              · by_cases h1 : ok = 1
                · exact .inr (.inl ⟨h1, fun hb => hgo ⟨h1, hb⟩⟩)
                · exact .inr (.inr (by omega)), HBI.out.1, HBI.out.2⟩
            have hen := opNew_enc hG HGd.out.2.2
            have hen0 := (opNew_enc hG (bs := []) (by simp)).2
            have HEN : Hid (opNew ok ox on oi (BitVec.ofInt 64 oi) (encs ks) = encs (ks ++ [⟨ok, ox, on, oi⟩]) ∧ opCode ok ox on oi (BitVec.ofInt 64 oi) (encs ks).length = 0 ∧ opCode ok ox on oi (BitVec.ofInt 64 oi) 0 = 0) := ⟨by rw [hen.1, encs_app]; simp [encs], hen.2, hen0⟩
            have HGG : Hid (Good ⟨ok, ox, on, oi⟩) := hG
            have hok : Hid (ok = 1 → 0 ≤ on ∧ on ≤ 64 ∧ (on = 64 ∨ (I64 ox / 2 ^ on.toNat == 0) = true)) := by
              intro h1
              have hnb : ¬ bBad ox on := fun hb => hgo ⟨h1, hb⟩
              unfold bBad at hnb
              refine ⟨by omega, by omega, ?_⟩
              right
              have hx : ox.toNat < 2 ^ on.toNat := by
                by_cases hx : ox.toNat < 2 ^ on.toNat
                · exact hx
                · exact absurd (.inr (.inr ⟨by omega, by omega, hx⟩)) hnb
              rw [shr_zero hx]
              rfl
            clear hen hen0 hG hgo
            go_wp2_with fail
            refine (HW.out _ HAA.out.2.1 HAA.out.1 HAA.out.2.2.1 _ HAA.out.2.2.2).mono ?_
            rintro e w2 ⟨he, hw2, ho2, hx2⟩
            rw [HEN.out.2.1, HEN.out.2.2, beq_self_eq_true] at he
            subst he
            rw [HEN.out.1] at hw2
            have H2 : Hid (OwnO w2 w.heap.size u4 ks ∧ WN w w2 gw (encs (ks ++ [(⟨ok, ox, on, oi⟩ : OpT)])) ∧ (∀ o ∈ ks ++ [(⟨ok, ox, on, oi⟩ : OpT)], Good o) ∧ (ks ++ [(⟨ok, ox, on, oi⟩ : OpT)]).length ≤ m + 1 ∧ ks.length ≤ 16777216) := ⟨ho2, hw2, by
              intro q hq
              rcases List.mem_append.1 hq with h | h
              · exact HGd.out.1 q h
              · simp at h; subst h; exact HGG.out, by have := HGd.out.2.1; simp; omega, by have := HGd.out.2.1; omega⟩
            have d0 : w2.cell? ⟨wr.heap.size, 0, none⟩ = some (.int .i64 ok) := by simp [World.cell?, hx2]
            have d1 : w2.cell? ⟨wr.heap.size, 1, none⟩ = some (.int .u64 (I64 ox)) := by simp [World.cell?, hx2]
            have d2 : w2.cell? ⟨wr.heap.size, 2, none⟩ = some (.int .i64 on) := by simp [World.cell?, hx2]
            have d3 : w2.cell? ⟨wr.heap.size, 3, none⟩ = some (.int .i64 oi) := by simp [World.cell?, hx2]
            clear hw2 ho2 hx2 HAA HA HW HEN
            by_cases k1 : ok = 1
            · subst k1
              have hk1 := hok.out rfl
              obtain ⟨qn, rfl⟩ := Int.eq_ofNat_of_zero_le hk1.1
              have e0 := hk1.1
              have e64 := hk1.2.1
              rcases hk1.2.2 with e65 | e65
              · have e66 : ((qn : Int) == 64) = true := by simpa using e65
                clear hk1 hok e65
                go_wp2_with (at_builtin; refine wp_appO rfl _ _ rfl w.heap.size _ ks ⟨1, ox, (qn : Int), oi⟩ _ rfl rfl (Go.heap_alloc_new _ _) (H2.out.1.keep (alloc_gb _ _)) H2.out.2.2.2.2 (by have := H2.out.2.1.2.1.size; simp; omega) ?_)
                intro v3 w3 ho3 hg3
                obtain ⟨a3, c3', hv3⟩ := ho3.shape
                have H3 : Hid (∃ ks, OwnO w3 w.heap.size v3 ks ∧ WN w w3 gw (encs ks) ∧ (∀ o ∈ ks, Good o) ∧ ks.length ≤ m + 1) := by
                  have hoo := H2.out.1.keep (alloc_gb w2 (.cells #[.int .i64 1, .int .u64 (I64 ox), .int .i64 (qn : Int), .int .i64 oi] 31))
                  have hgn : w.grownBy w3 none := gb_new (gb_none H2.out.2.1.2.1 (alloc_gb _ _)) hg3 (fun k hk => (hoo.lt k hk).1)
                  exact ⟨_, ho3, (H2.out.2.1.keep (alloc_gb w2 (.cells #[.int .i64 1, .int .u64 (I64 ox), .int .i64 (qn : Int), .int .i64 oi] 31))).keptO (KeepT.of_row hoo hg3) hgn, H2.out.2.2.1, H2.out.2.2.2.1⟩
                clear ho3 hg3 H2
                go_wp2
                go_roundw
                case rel => exact ⟨m + 1, by omega, hm6, by go_num, H3⟩
                case measure => simp [intOf]; omega
              · rw [Int.toNat_natCast] at e65
                clear hk1 hok
                by_cases e66 : (qn : Int) = 64
                · have e67 : ((qn : Int) == 64) = true := by simpa using e66
                  clear e66
                  go_wp2_with (at_builtin; refine wp_appO rfl _ _ rfl w.heap.size _ ks ⟨1, ox, (qn : Int), oi⟩ _ rfl rfl (Go.heap_alloc_new _ _) (H2.out.1.keep (alloc_gb _ _)) H2.out.2.2.2.2 (by have := H2.out.2.1.2.1.size; simp; omega) ?_)
                  intro v3 w3 ho3 hg3
                  obtain ⟨a3, c3', hv3⟩ := ho3.shape
                  have H3 : Hid (∃ ks, OwnO w3 w.heap.size v3 ks ∧ WN w w3 gw (encs ks) ∧ (∀ o ∈ ks, Good o) ∧ ks.length ≤ m + 1) := by
                    have hoo := H2.out.1.keep (alloc_gb w2 (.cells #[.int .i64 1, .int .u64 (I64 ox), .int .i64 (qn : Int), .int .i64 oi] 31))
                    have hgn : w.grownBy w3 none := gb_new (gb_none H2.out.2.1.2.1 (alloc_gb _ _)) hg3 (fun k hk => (hoo.lt k hk).1)
                    exact ⟨_, ho3, (H2.out.2.1.keep (alloc_gb w2 (.cells #[.int .i64 1, .int .u64 (I64 ox), .int .i64 (qn : Int), .int .i64 oi] 31))).keptO (KeepT.of_row hoo hg3) hgn, H2.out.2.2.1, H2.out.2.2.2.1⟩
                  clear ho3 hg3 H2
                  go_wp2
                  go_roundw
                  case rel => exact ⟨m + 1, by omega, hm6, by go_num, H3⟩
                  case measure => simp [intOf]; omega
                · have e67 : ((qn : Int) == 64) = false := by simpa using e66
                  clear e66
                  go_wp2_with (at_builtin; refine wp_appO rfl _ _ rfl w.heap.size _ ks ⟨1, ox, (qn : Int), oi⟩ _ rfl rfl (Go.heap_alloc_new _ _) (H2.out.1.keep (alloc_gb _ _)) H2.out.2.2.2.2 (by have := H2.out.2.1.2.1.size; simp; omega) ?_)
                  intro v3 w3 ho3 hg3
                  obtain ⟨a3, c3', hv3⟩ := ho3.shape
                  have H3 : Hid (∃ ks, OwnO w3 w.heap.size v3 ks ∧ WN w w3 gw (encs ks) ∧ (∀ o ∈ ks, Good o) ∧ ks.length ≤ m + 1) := by
                    have hoo := H2.out.1.keep (alloc_gb w2 (.cells #[.int .i64 1, .int .u64 (I64 ox), .int .i64 (qn : Int), .int .i64 oi] 31))
                    have hgn : w.grownBy w3 none := gb_new (gb_none H2.out.2.1.2.1 (alloc_gb _ _)) hg3 (fun k hk => (hoo.lt k hk).1)
                    exact ⟨_, ho3, (H2.out.2.1.keep (alloc_gb w2 (.cells #[.int .i64 1, .int .u64 (I64 ox), .int .i64 (qn : Int), .int .i64 oi] 31))).keptO (KeepT.of_row hoo hg3) hgn, H2.out.2.2.1, H2.out.2.2.2.1⟩
                  clear ho3 hg3 H2
                  go_wp2
                  go_roundw
                  case rel => exact ⟨m + 1, by omega, hm6, by go_num, H3⟩
                  case measure => simp [intOf]; omega
            · have k1b : (ok == 1) = false := by simpa using k1
              have k1c : (ok != 1) = true := by simpa using k1
              clear hok
              go_wp2_with (at_builtin; refine wp_appO rfl _ _ rfl w.heap.size _ ks ⟨ok, ox, on, oi⟩ _ rfl rfl (Go.heap_alloc_new _ _) (H2.out.1.keep (alloc_gb _ _)) H2.out.2.2.2.2 (by have := H2.out.2.1.2.1.size; simp; omega) ?_)
              intro v3 w3 ho3 hg3
              obtain ⟨a3, c3', hv3⟩ := ho3.shape
              have H3 : Hid (∃ ks, OwnO w3 w.heap.size v3 ks ∧ WN w w3 gw (encs ks) ∧ (∀ o ∈ ks, Good o) ∧ ks.length ≤ m + 1) := by
                have hoo := H2.out.1.keep (alloc_gb w2 (.cells #[.int .i64 ok, .int .u64 (I64 ox), .int .i64 on, .int .i64 oi] 31))
                have hgn : w.grownBy w3 none := gb_new (gb_none H2.out.2.1.2.1 (alloc_gb _ _)) hg3 (fun k hk => (hoo.lt k hk).1)
                exact ⟨_, ho3, (H2.out.2.1.keep (alloc_gb w2 (.cells #[.int .i64 ok, .int .u64 (I64 ox), .int .i64 on, .int .i64 oi] 31))).keptO (KeepT.of_row hoo hg3) hgn, H2.out.2.2.1, H2.out.2.2.2.1⟩
              clear ho3 hg3 H2
              go_wp2
              go_roundw
              case rel => exact ⟨m + 1, by omega, hm6, by go_num, H3⟩
              case measure => simp [intOf]; omega
        · have H2 : Hid (∃ ks, OwnO (wr.alloc (.cells #[.int .i64 ok, .int .u64 (I64 ox), .int .i64 on, .int .i64 oi] 31)) w.heap.size u4 ks ∧ WN w (wr.alloc (.cells #[.int .i64 ok, .int .u64 (I64 ox), .int .i64 on, .int .i64 oi] 31)) gw (encs ks) ∧ (∀ o ∈ ks, Good o) ∧ ks.length ≤ m + 1) := ⟨ks, HA.out.1, HA.out.2.1, HGd.out.1, by have := HGd.out.2.1; omega⟩
          clear HA HAA HW
          by_cases kr0 : 0 ≤ ok
          · have kr2 : ¬ ok ≤ 2 := fun h => kr ⟨kr0, h⟩
            clear kr
            go_wp2
            go_roundw
            case rel => exact ⟨m + 1, by omega, hm6, by go_num, H2⟩
            case measure => simp [intOf]; omega
          · clear kr
            go_wp2
            go_roundw
            case rel => exact ⟨m + 1, by omega, hm6, by go_num, H2⟩
            case measure => simp [intOf]; omega
    · have HB : Hid (OwnO wr w.heap.size u4 ks ∧ WN w wr gw (encs ks) ∧ (∀ o ∈ ks, Good o) ∧ ks.length ≤ 500) := ⟨HB0.out.1, HB0.out.2.1, HB0.out.2.2.1, Nat.le_trans HB0.out.2.2.2 hm5⟩
      clear HB0
      generalize wr = WB at *
      go_wp2_with fail
      refine (wbytesN w _ gw _ HB.out.2.1 (by have := encs_le ks HB.out.2.2.1; have := HB.out.2.2.2; omega)).mono ?_
      rintro e w3 ⟨v3, rfl, ho3, hg3⟩
      have H3 : Hid (WN w w3 gw (encs ks) ∧ OwnO w3 w.heap.size u4 ks ∧ Rd w3 v3 (pack (encs ks))) := ⟨HB.out.2.1.keep hg3, HB.out.1.keep hg3, ho3.rd⟩
      clear ho3 hg3
      go_wp2_with fail
      refine (wlenN w _ gw _ H3.out.1).mono ?_
      rintro e w4 ⟨rfl, rfl⟩
      go_wp2_with fail
      refine (newReader_ok w _ (pack (encs ks)) (encs ks).length _ H3.out.2.2 H3.out.1.2.1 (by have := encs_le ks HB.out.2.2.1; have := HB.out.2.2.2; omega) (by rw [pack_len]; omega)).mono ?_
      rintro e w5 ⟨gr, rfl, hr5, hg5, -⟩
      have htk : (pack (encs ks)).take (((encs ks).length + 7) / 8) = pack (encs ks) := List.take_of_length_le (by rw [pack_len]; omega)
      rw [htk] at hr5
      have H5 : Hid (RN w w5 gr (pack (encs ks)) 0 (encs ks).length ∧ OwnO w5 w.heap.size u4 ks) := ⟨hr5, H3.out.2.1.keep hg5⟩
      have HGood : Hid (∀ o ∈ ks, Good o) := HB.out.2.2.1
      have hks : ks.length ≤ 500 := HB.out.2.2.2
      clear hr5 hg5 htk H3 HB
      obtain ⟨ka, kc, hkv⟩ := H5.out.2.shape
      subst hkv
      go_wp2
      go_loopw [86] (fun i wr => ∃ j : Nat, j ≤ ks.length ∧ i = .int .i64 (j : Int) ∧ Hid (RN w wr gr (pack (encs ks)) (encs (ks.take j)).length (encs ks).length ∧ OwnO wr w.heap.size (.slice ka ks.length kc) ks)) (fun i _ => ks.length - (intOf i).toNat)
      case atStart => exact ⟨0, by omega, rfl, H5⟩
      case round =>
        obtain ⟨j, hj, rfl, hr⟩ := hrel
        by_cases hjl : j < ks.length
        · obtain ⟨gk, cap', hkv, hcells⟩ := hr.out.2.form (by rintro rfl; simp at hjl)
          simp only [Value.slice.injEq, true_and] at hkv
          obtain ⟨rfl, rfl⟩ := hkv
          obtain ⟨q0, q1, q2, q3⟩ := hcells j hjl
          have hat := encs_at hjl
          have hgood := HGood.out (ks.getD j opZ) (by simp [List.getD, hjl])
          have HA : Hid (At (pack (encs ks)) (encs (ks.take j)).length (encs ks).length (enc (ks.getD j opZ)) ∧ (encs (ks.take (j + 1))).length = (encs (ks.take j)).length + (enc (ks.getD j opZ)).length) := ⟨hat.1, by rw [hat.2, List.length_append]⟩
          have HG : Hid (Good (ks.getD j opZ)) := hgood
          have HH : Hid (∀ O, RN w (wr.alloc O) gr (pack (encs ks)) (encs (ks.take j)).length (encs ks).length ∧ OwnO (wr.alloc O) w.heap.size (.slice (some ⟨gk, 0, none⟩) ks.length kc) ks) := fun O => ⟨hr.out.1.keep (alloc_gb _ _), hr.out.2.keep (alloc_gb _ _)⟩
          have HF : Hid (∀ w1 w2, OwnO w1 w.heap.size (.slice (some ⟨gk, 0, none⟩) ks.length kc) ks → RN w w1 gr (pack (encs ks)) (encs (ks.take j)).length (encs ks).length → w1.grownBy w2 (some gr) → OwnO w2 w.heap.size (.slice (some ⟨gk, 0, none⟩) ks.length kc) ks) := fun w1 w2 ho hn hg => by
            refine World.ownsRow.kept ho hg (.inr ?_)
            intro e
            simp only [Value.ownBlock, Option.some.injEq] at e
            obtain ⟨gb, c, g1, g2, g3⟩ := hn.here
            rcases ho.2 with ⟨h8, _⟩ | ⟨g4, cap4, cur4, h8, _, hh4, _⟩
            · cases h8
            · simp only [Value.slice.injEq, Option.some.injEq, Addr.mk.injEq] at h8
              obtain ⟨⟨rfl, -, -⟩, -, -⟩ := h8
              unfold Rr at g2
              rw [← e, hh4] at g2
              simp at g2
          clear hcells hat hgood hr
          generalize hEN : encs (ks.take (j + 1)) = EN at *
          have HEN : Hid (encs (ks.take (j + 1)) = EN) := hEN
          clear hEN
          generalize encs (ks.take j) = EP at *
          generalize ks.getD j opZ = op at *
          obtain ⟨ok, ox, on, oi⟩ := op
          simp only at q0 q1 q2 q3
          by_cases k0 : ok = 0
          · subst k0
            have hE : enc ⟨0, ox, on, oi⟩ = [on.tmod 2 != 0] := if_pos rfl
            have hps : EP.length < (encs ks).length := by have := HA.out.1.1; rw [hE] at this; simp at this; omega
            have HU : Hid (ubit (pack (encs ks)) EP.length = (on.tmod 2 != 0)) := by show ubit (pack (encs ks)) EP.length = (on.tmod 2 != 0); have := HA.out.1.2 0 (by rw [hE]; simp); rw [hE] at this; simpa using this
            have HC : Hid (∀ w1, RN w w1 gr (pack (encs ks)) EP.length (encs ks).length → Calls Tryd.prog 20 #[.pointer (some ⟨gr, 0, none⟩)] w1 fun e w2 => e = .returned (.tuple #[.bool (on.tmod 2 != 0), .int .i64 0]) ∧ RN w w2 gr (pack (encs ks)) EN.length (encs ks).length ∧ w1.grownBy w2 (some gr)) := fun w1 hn => by
              have := rbitN w w1 gr EP.length (encs ks).length (pack (encs ks)) hn
              rw [if_pos hps, if_pos hps, if_pos hps, HU.out] at this
              have e1 : EN.length = EP.length + 1 := by rw [HA.out.2, hE]; rfl
              rw [e1]
              exact this
            clear hE hps HU
            go_wp2_with fail
            refine (HC.out _ (HH.out _).1).mono ?_
            rintro e w6 ⟨rfl, hr6, hg6⟩
            have H6 : Hid (RN w w6 gr (pack (encs ks)) EN.length (encs ks).length ∧ OwnO w6 w.heap.size (.slice (some ⟨gk, 0, none⟩) ks.length kc) ks) := ⟨hr6, HF.out _ _ (HH.out _).2 (HH.out _).1 hg6⟩
            have hbx : w6.cell? ⟨wr.heap.size, 2, none⟩ = some (.int .i64 on) := by
              have hne : wr.heap.size ≠ gr := by
                obtain ⟨gb, c, g1, g2, g3⟩ := (HH.out (.cells #[.int .i64 0, .int .u64 (I64 ox), .int .i64 on, .int .i64 oi] 31)).1.here
                intro e
                have h9 := Go.heap_alloc_new wr (.cells #[.int .i64 0, .int .u64 (I64 ox), .int .i64 on, .int .i64 oi] 31)
                unfold Rr at g2
                rw [← e, h9] at g2
                simp at g2
              rw [World.cell?_of_block (hg6.block wr.heap.size (by simp) (by simpa using hne)), World.cell?_alloc_at _ _ _ _ rfl]
              rfl
            clear hr6 hg6 HC
            generalize hb2 : (on.tmod 2 != 0) = BB at *
            go_wp2
            go_roundw
            case rel => exact ⟨j + 1, by omega, by go_num, by rw [HEN.out]; exact H6⟩
            case measure => simp [intOf]; omega
          · by_cases k1 : ok = 1
            · subst k1
              have hE : enc ⟨1, ox, on, oi⟩ = bitsOf ox.toNat on.toNat := by unfold enc; rw [if_neg (by simp), if_pos rfl]
              have hnb : ¬ bBad ox on := by
                rcases HG.out.1 with h | ⟨_, h⟩ | h
                · simp at h
                · exact h
                · simp at h
              have hnb2 := hnb
              unfold bBad at hnb2
              obtain ⟨nn, rfl⟩ := Int.eq_ofNat_of_zero_le (show 0 ≤ on by omega)
              rw [Int.toNat_natCast] at hnb2 hE
              have hxx : ox.toNat < 2 ^ nn := by
                by_cases hx : ox.toNat < 2 ^ nn
                · exact hx
                · exact absurd (.inr (.inr ⟨by omega, by omega, hx⟩)) hnb2
              have HC : Hid (∀ w1, RN w w1 gr (pack (encs ks)) EP.length (encs ks).length → Calls Tryd.prog 21 #[.pointer (some ⟨gr, 0, none⟩), .int .i64 (nn : Int)] w1 fun e w2 => e = .returned (.tuple #[.int .u64 (I64 ox), .int .i64 0]) ∧ RN w w2 gr (pack (encs ks)) EN.length (encs ks).length ∧ w1.grownBy w2 (some gr)) := fun w1 hn => by
                have hc := rbitsN w w1 gr EP.length (encs ks).length (pack (encs ks)) (nn : Int) hn
                have hle := HA.out.1.1
                rw [hE, bitsOf_len] at hle
                have e1 : rCode (nn : Int) ((encs ks).length - EP.length) = 0 := by unfold rCode; rw [if_neg (by unfold rBad; omega), Int.toNat_natCast, if_neg (by omega)]
                have hu := HA.out.1.ubits
                rw [hE, bitsOf_len] at hu
                have e2 : rVal (pack (encs ks)) EP.length (nn : Int) ((encs ks).length - EP.length) = ox.toNat := by unfold rVal; rw [if_pos e1, Int.toNat_natCast, hu, natOf_bitsOf, Nat.mod_eq_of_lt hxx]
                have e3 : rAt EP.length (nn : Int) ((encs ks).length - EP.length) = EN.length := by unfold rAt; rw [if_pos e1, Int.toNat_natCast, HA.out.2, hE, bitsOf_len]
                rw [e1, e2, e3] at hc
                have e4 : BitVec.ofNat 64 ox.toNat = ox := by simp
                rw [e4] at hc
                exact hc
              clear hE hnb hnb2 hxx
              go_wp2_with fail
              refine (HC.out _ (HH.out _).1).mono ?_
              rintro e w6 ⟨rfl, hr6, hg6⟩
              have H6 : Hid (RN w w6 gr (pack (encs ks)) EN.length (encs ks).length ∧ OwnO w6 w.heap.size (.slice (some ⟨gk, 0, none⟩) ks.length kc) ks) := ⟨hr6, HF.out _ _ (HH.out _).2 (HH.out _).1 hg6⟩
              have hbx : w6.cell? ⟨wr.heap.size, 1, none⟩ = some (.int .u64 (I64 ox)) := by
                have hne : wr.heap.size ≠ gr := by
                  obtain ⟨gb, c, g1, g2, g3⟩ := (HH.out (.cells #[.int .i64 1, .int .u64 (I64 ox), .int .i64 (nn : Int), .int .i64 oi] 31)).1.here
                  intro e
                  have h9 := Go.heap_alloc_new wr (.cells #[.int .i64 1, .int .u64 (I64 ox), .int .i64 (nn : Int), .int .i64 oi] 31)
                  unfold Rr at g2
                  rw [← e, h9] at g2
                  simp at g2
                rw [World.cell?_of_block (hg6.block wr.heap.size (by simp) (by simpa using hne)), World.cell?_alloc_at _ _ _ _ rfl]
                rfl
              clear hr6 hg6 HC
              go_wp2
              go_roundw
              case rel => exact ⟨j + 1, by omega, by go_num, by rw [HEN.out]; exact H6⟩
              case measure => simp [intOf]; omega
            · have k2 : ok = 2 := by
                rcases HG.out.1 with h | ⟨h, _⟩ | h
                · exact absurd h k0
                · exact absurd h k1
                · exact h
              subst k2
              have hE : enc ⟨2, ox, on, oi⟩ = form oi (BitVec.ofInt 64 oi) := by unfold enc; rw [if_neg (by simp), if_neg (by simp)]
              have HC : Hid (∀ w1, RN w w1 gr (pack (encs ks)) EP.length (encs ks).length → Calls Tryd.prog 22 #[.pointer (some ⟨gr, 0, none⟩)] w1 fun e w2 => e = .returned (.tuple #[.int .i64 oi, .int .i64 0]) ∧ RN w w2 gr (pack (encs ks)) EN.length (encs ks).length ∧ w1.grownBy w2 (some gr)) := fun w1 hn => by
                have hc := rintN w w1 gr EP.length (encs ks).length (pack (encs ks)) hn HT.out
                have h1 := HA.out.1
                rw [hE] at h1
                have e1 := ri_at (wrap_u64 oi) HG.out.2.1 HG.out.2.2 h1
                have e2 := HA.out.2
                rw [hE] at e2
                rw [e1, ← e2] at hc
                exact hc
              clear hE
              go_wp2_with fail
              refine (HC.out _ (HH.out _).1).mono ?_
              rintro e w6 ⟨rfl, hr6, hg6⟩
              have H6 : Hid (RN w w6 gr (pack (encs ks)) EN.length (encs ks).length ∧ OwnO w6 w.heap.size (.slice (some ⟨gk, 0, none⟩) ks.length kc) ks) := ⟨hr6, HF.out _ _ (HH.out _).2 (HH.out _).1 hg6⟩
              have hbx : w6.cell? ⟨wr.heap.size, 3, none⟩ = some (.int .i64 oi) := by
                have hne : wr.heap.size ≠ gr := by
                  obtain ⟨gb, c, g1, g2, g3⟩ := (HH.out (.cells #[.int .i64 2, .int .u64 (I64 ox), .int .i64 on, .int .i64 oi] 31)).1.here
                  intro e
                  have h9 := Go.heap_alloc_new wr (.cells #[.int .i64 2, .int .u64 (I64 ox), .int .i64 on, .int .i64 oi] 31)
                  unfold Rr at g2
                  rw [← e, h9] at g2
                  simp at g2
                rw [World.cell?_of_block (hg6.block wr.heap.size (by simp) (by simpa using hne)), World.cell?_alloc_at _ _ _ _ rfl]
                rfl
              clear hr6 hg6 HC
              go_wp2
              go_roundw
              case rel => exact ⟨j + 1, by omega, by go_num, by rw [HEN.out]; exact H6⟩
              case measure => simp [intOf]; omega
        · obtain rfl : j = ks.length := by omega
          have H6 : Hid (RN w wr gr (pack (encs ks)) (encs ks).length (encs ks).length) := by have := hr.out.1; rw [List.take_length] at this; exact this
          have hz : Hid ((((encs ks).length - (encs ks).length : Nat) : Int) = 0) := by show (((encs ks).length - (encs ks).length : Nat) : Int) = 0; omega
          clear hr
          go_wp2_with fail
          refine (leftN w _ gr _ _ _ H6.out).mono ?_
          rintro e w7 ⟨he, hg7⟩
          rw [hz.out] at he
          subst he
          have H7 : Hid (w.grownBy w7 none) := gb_none H6.out.kept hg7
          clear hg7
          go_wp2_with fail
          refine (awake_any _).mono ?_
          rintro e w8 ⟨rfl, hg8⟩
          have H8 : Hid (Below w.heap.size w w8) := gb_below (gb_none H7.out hg8)
          clear hg8
          go_wp2
          go_ret
          exact ⟨rfl, H8.out⟩
theorem back_contract (H : Type) (enc : TypeId × Value → H) (W : World) (base : Nat) (args : Array Value) (ds gs : List (DataW H)) (before : List MemPlace)
    (hval : ∀ (j : Nat) t v, Tryd.f5.params[j]? = some t → args[j]? = some v → Value.okWide Tryd.prog W .any base t v)
    (hW : DataW.Whole enc Tryd.prog Tryd.f5.params.toList Rows.bitsBackSpec.vars false W args.toList ds gs before) (hL : laidMetH Tryd.prog Rows.bitsBackRow.laid W) (hk : (DataW.weightsEach Tryd.prog (Tryd.f5.params.toList ++ (OpenSpec.ofChange Rows.bitsBackSpec).bare.plain.varTypes Tryd.prog) (ds ++ gs)).all (· ≤ reachBytes) = true) :
    Calls Tryd.prog 5 args W fun e W' => ∃ v, e = .returned v ∧ Rows.bitsBackSpec.post enc Tryd.prog Tryd.f5 false true false false W args v W' := by
  have hW' := hW
  obtain ⟨p, q, hA0, hV, rfl, hfz, hnd⟩ := hW
  have hA : DataW.TrodAll enc Tryd.prog W 0 (fun _ => true) true Tryd.f5.params.toList args.toList ds p := hA0
  rw [Tryd.params5] at hA hval hk
  obtain ⟨v0, vs0, d0, ds0, p0, q0, hargs, rfl, rfl, h0, r0⟩ := trodAll_cons hA
  obtain ⟨rfl, rfl, rfl⟩ := trodAll_nil r0
  obtain rfl : args = #[v0] := by cases args; simp_all
  obtain ⟨rfl, rfl⟩ := trodVars_none hV
  obtain ⟨l0, o0⟩ := open_opsB (hval 0 22 v0 rfl rfl) h0
  clear hA0
  have hT := tabw_of hL
  refine (back_walk _ _ W o0.1 o0.2 hT).mono fun e W' ⟨he, bel⟩ => ?_
  subst he
  exact ⟨_, rfl, _, _, _, [], _, [], hW', trodAll_mk1 (shut_bool Tryd.underlying4 _), (trodAll_cons_mk (back_ops h0 bel) trodAll_mk0), rfl, bel.frame _, fun h => by cases h⟩

theorem back_met (os : Os) : laidMet Tryd.prog Rows.bitsBackRow.laid ((laidWorld os).forCall (fun _ _ => 0) ⟨#[], #[.slice none 0 0], []⟩).memory :=
  laidMet_of_run' 8 (by kernel_rfl) (by kernel_rfl)
theorem back_reads (os : Os) {H : Type} (enc : TypeId × Value → H) : ∃ places, DataW.whole enc Tryd.prog ((laidWorld os).forCall (fun _ _ => 0) ⟨#[], #[.slice none 0 0], []⟩).memory Tryd.f5.params.toList Rows.bitsBackSpec.vars false #[Value.slice none 0 0].toList 8 = some ([.nil], [], places) :=
  ⟨[], by kernel_rfl⟩

set_option maxRecDepth 100000 in
theorem back_lifted (os : Os) (started : os.Started) (H : Type) (enc : TypeId × Value → H) (F : Stop.Interp) :
    ReturnsInHanded {} Tryd.checked os 5 .any ((OpenSpec.ofChange Rows.bitsBackSpec).preRow enc Tryd.prog Tryd.f5 Rows.bitsBackRow.domain false Rows.bitsBackRow.laid) (((OpenSpec.ofChange Rows.bitsBackSpec).at F).post enc Tryd.prog Tryd.f5 false true false false) := by
  obtain ⟨places, hx⟩ := back_reads os enc
  refine returnsInHanded_of_row (C := Tryd.checked) (s := (OpenSpec.ofChange Rows.bitsBackSpec)) own started (by kernel_rfl) Tryd.func5
    (witness_row_at (enc := enc) (C := Tryd.checked) false (laidWorld os) #[.slice none 0 0] rfl (by kernel_rfl) (by kernel_rfl) (by kernel_rfl)
      (OpenSpec.preRow_of_cond 8 hx (by kernel_rfl) (fun k hk => by cases hk) (by kernel_rfl) (back_met os))) ?_
  intro W base args ds gs before hval hW _ _ hsz hL _ _
  exact back_contract H enc W base args ds gs before hval hW hL hsz

theorem back_said : Rows.BitsBackSaid :=
  OpenClaim.holds_of_cond 5 Tryd.f5 rfl rfl rfl rfl rfl rfl rfl ⟨rfl, rfl, rfl, rfl, rfl⟩ rfl rfl rfl rfl rfl (by kernel_rfl) Tryd.func5 (by kernel_rfl)
    (of_decide_eq_true (by kernel_rfl)) (by unfold Func.isWrapper; first | (rw [if_pos (by decide +kernel)]; kernel_rfl) | (rw [if_neg (by decide +kernel)]; exact ⟨rfl, rfl⟩))
    (fun os started H enc _ F => by rw [OpenClaim.pre_eq_preRow]; exact back_lifted os started H enc F)

theorem back_intocsinlaw02Op : Tryd.prog.wantsStandIn 22 = false := by kernel_rfl
theorem back_plain (f : FuncId) (fn : Func) (hf : Tryd.pinned.checked.prog.funcNamed "tocsin/tocsinlaw02.BitsBack" = some f) (hfn : Tryd.pinned.checked.prog.funcs[f]? = some fn) :
    false = Tryd.pinned.checked.prog.looks [] ∧ ∀ (j : Nat) t, fn.params[j]? = some t → Tryd.pinned.checked.prog.wantsStandIn t = false := by
  obtain rfl : f = 5 := Option.some.inj ((show Tryd.prog.funcNamed "tocsin/tocsinlaw02.BitsBack" = some 5 by kernel_rfl).symm.trans hf) |>.symm
  obtain rfl : fn = Tryd.f5 := (Option.some.inj (Tryd.func5.symm.trans hfn)).symm
  refine ⟨by kernel_rfl, fun j t ht => ?_⟩
  rw [Tryd.params5] at ht
  have hm := Array.mem_of_getElem? ht
  simp only [List.mem_toArray, List.mem_cons, List.not_mem_nil, or_false] at hm
  rcases hm with rfl
  · exact back_intocsinlaw02Op

/-- THE STATEMENT -/
theorem bitsBack_holds : Rows.BitsBackCardSaid :=
  Claim7.holds_tied_plain_at .later [] _ _ _ _ back_said (fun _ h => by cases h) (by kernel_rfl) (fun _ h => by cases h) bitsBack_row_tie rfl ⟨rfl, rfl⟩ (by kernel_rfl) rfl back_plain (by kernel_rfl)
end Go.Proofs.YtgbpnkamamafjabDoor
