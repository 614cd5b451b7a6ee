/-
  The document's string at a place: the walk.
-/
import Derived.Test.YtifjdfmmafbhkaaGreatDoorLxGE
import Derived.Test.YtifjdfmmafbhkaaGreatDoorLxGF
import Derived.Test.YtifjdfmmafbhkaaGreatDoorLxZd
import Derived.Test.YtifjdfmmafbhkaaGreatDoorLxGJ
namespace Go.Proofs.YtifjdfmmafbhkaaGreatDoor
open Go.RowKit

theorem rd_oneN {w : World} (V : Nat) (hV : V < 256) (fr : Nat × Nat) : Rd (w.alloc (.cells #[.int .u8 (V : Int)] 5 fr)) (.slice (some ⟨w.heap.size, 0, none⟩) 1 1) [UInt8.ofNat V] :=
  Rd_lit w [UInt8.ofNat V] 1 rfl (by simp) _ (by
    have : (UInt8.ofNat V).toNat = V := by rw [UInt8.toNat_ofNat']; omega
    simp [bv, this])
theorem rd_oneB {w : World} (b : UInt8) (fr : Nat × Nat) : Rd (w.alloc (.cells #[.int .u8 (b.toNat : Int)] 5 fr)) (.slice (some ⟨w.heap.size, 0, none⟩) 1 1) [b] := Rd_lit w [b] 1 rfl (by simp) _ rfl
/-- what is answered of a string at p -/
def TxA (S : Option (LxS × Nat)) (p : Nat) (e : Ending) : Prop := ∃ (tx : LxS) (k : Int), e = .returned (.tuple #[.string (ByteArray.mk ⟨tx⟩), .int .i64 k, .bool S.isSome]) ∧ ∀ x, S = some x → tx = x.1 ∧ k = ((p + x.2 : Nat) : Int)
theorem tx_none {S : Option (LxS × Nat)} {p : Nat} (h : S = none) : TxA S p (.returned (.tuple #[.string ⟨#[]⟩, .int .i64 0, .bool false])) := by
  subst h
  exact ⟨[], 0, rfl, fun x h => by cases h⟩
theorem tx_bad {acc : LxS} {k : Int} {p : Nat} : TxA none p (.returned (.tuple #[.string (ByteArray.mk ⟨acc⟩), .int .i64 k, .bool false])) := ⟨acc, k, rfl, fun x h => by cases h⟩
theorem tx_good {acc : LxS} {n p : Nat} {k : Int} (h : k = ((p + n : Nat) : Int)) : TxA (some (acc, n)) p (.returned (.tuple #[.string (ByteArray.mk ⟨acc⟩), .int .i64 k, .bool true])) := ⟨acc, k, rfl, fun x hx => by
  obtain rfl := Option.some.inj hx
  exact ⟨rfl, h⟩⟩
theorem hvN_lt (a b : Nat) (_ha : hxB a = true) (h7 : a < 56) (hb : hxB b = true) : hvN a * 16 + hvN b < 128 := by
  rw [hxB_iff] at hb
  unfold hvN
  (repeat' split) <;> omega
set_option maxRecDepth 8000 in
set_option maxHeartbeats 6400000 in
theorem refText_any (w : World) (l : LxS) (p : Nat) (hl : l.length ≤ 140737488351232) (hp : p < l.length) (hq : byN l p = 34 ∨ byN l p = 39) :
    Calls Tryz.prog 39 #[.string (ByteArray.mk ⟨l⟩), .int .i64 (p : Int)] w fun e w' => TxA (strW (l.drop p)) p e ∧ w.grownBy w' none := by
  have hz : (ByteArray.mk ⟨l⟩).size = l.length := rfl
  have hpi0 : (p : Int) < (l.length : Int) := by omega
  obtain ⟨q, hq0, hqi⟩ := byte_at l p hp
  have hqc : q.toNat = 34 ∨ q.toNat = 39 := by omega
  have HQ := hidJ hq
  have HQ0 := hidJ hq0
  have HS := hidJ (fun i acc h => strW_tx_fin l p i acc hp h hq)
  have HNo0 := hidJ (fun h => strW_tx_none l p hp hq h)
  generalize strW (l.drop p) = S at *
  clear hq hq0
  go_enter Tryz.func39, Tryz.ntmps39
  go_wp2_with fail
  go_loopg [8, 9] (l.length + 2) (fun gk v8 v9 wr => ∃ (i : Nat) (acc : LxS) (v : Value), v8 = v ∧ v9 = .int .i64 (i : Int) ∧ p + 1 ≤ i ∧ i ≤ l.length ∧ l.length < i + gk ∧ acc.length ≤ i ∧ Hid (TxS l p i acc ∧ Own wr w.heap.size v acc ∧ w.grownBy wr none))
  case atStart => exact ⟨p + 1, [], _, rfl, by go_num, Nat.le_refl _, by omega, by omega, by simp, TxS.start l p, Own.nil _ _, gb_refl _ _⟩
  case round =>
    obtain ⟨i, acc, v, rfl, rfl, hpi, hil, hg, hac, hr⟩ := hrel
    have HT := hidJ hr.out.1
    have HO := hidJ hr.out.2
    clear hr
    by_cases hlt : i < l.length
    · obtain ⟨k, rfl⟩ : ∃ k, gk = k + 1 := ⟨gk - 1, by omega⟩
      have hli : (i : Int) < (l.length : Int) := by omega
      obtain ⟨x, hx, hxi⟩ := byte_at l i hlt
      have hx256 := x.toNat_lt
      by_cases e1 : x = q
      · subst e1
        as_aux_lemma =>

          obtain ⟨hS, hV⟩ := HS.out i acc hpi (HT.out.fin hlt hpi (by rw [← hx, HQ0.out]))
          have hcv : ∀ n, (convert 36 9 u8).run Tryz.prog (wr.drewN n) = .ok (.string (ByteArray.mk ⟨acc⟩)) (wr.drewN n) := fun n => run_strB8 (HO.out.1.keep (show wr.grownBy (wr.drewN n) none from ⟨rfl, rfl, rfl, Nat.le_refl _, fun _ _ _ => rfl⟩)).rd
          have hsl : ∀ W, (Instr.slice 9 (.string (ByteArray.mk ⟨l⟩)) (some (.int .i64 (p : Int))) (some (.int .i64 (i : Int))) none).run Tryz.prog W = .ok (.string (ByteArray.mk ⟨(l.drop p).take (i - p)⟩)) W := fun W => by
            rw [run_slice_string W 9 (ByteArray.mk ⟨l⟩) .i64 .i64 (p : Int) (i : Int) Tryz.underlying9 (by omega) (by omega) (by rw [hz]; omega), ← ext_mk]
            rfl
          have HU1 := hidJ (fun W => utf8_same W acc (by omega))
          have HU2 := hidJ (fun W => utf8_same W ((l.drop p).take (i - p)) (by rw [List.length_take, List.length_drop]; omega))
          have hw1 : IntKind.i64.wrap ((i : Int) + 1) = (i : Int) + 1 := wrap64_idU _ (by omega) (by omega)
          generalize (l.drop p).take (i - p) = part at *
          clear HT HS HNo0 HQ0 hqi hqc hx
          by_cases hB : Lib.validD part = true
          · have hA := hV hB
            rw [if_pos hB] at hS
            subst hS
            rw [hA] at HU1
            rw [hB] at HU2
            have HA := hidJ (show TxA (some (acc, i + 1 - p)) p (.returned (.tuple #[.string (ByteArray.mk ⟨acc⟩), .int .i64 ((i : Int) + 1), .bool true])) from tx_good (by omega))
            clear hA hB hV
            go_wp2_with fail
            go_quiet ((go_at_call 19; first | with_reducible exact Calls.quiet_of_same (HU1.out _) | with_reducible exact Calls.quiet_of_same (HU2.out _)))
            have HG2 := hidJ (gb_none HO.out.2 (show wr.grownBy (wr.drewN nq) none from ⟨rfl, rfl, rfl, Nat.le_refl _, fun _ _ _ => rfl⟩))
            generalize wr.drewN nq = W3 at *
            go_wp2
            refine bodyPost_ret (v := .tuple #[.string (ByteArray.mk ⟨acc⟩), .int .i64 ((i : Int) + 1), .bool true]) ?_ rfl ?_
            · simp [results, Tryz.f39, go_sem]
            · exact ⟨HA.out, HG2.out⟩
          · rw [if_neg hB] at hS
            subst hS
            rw [Bool.not_eq_true] at hB
            rw [hB] at HU2
            have HA := hidJ (show TxA none p (.returned (.tuple #[.string (ByteArray.mk ⟨acc⟩), .int .i64 ((i : Int) + 1), .bool false])) from tx_bad)
            clear hB hV
            by_cases hA : Lib.validD acc = true
            · rw [hA] at HU1
              clear hA
              go_wp2_with fail
              go_quiet ((go_at_call 19; first | with_reducible exact Calls.quiet_of_same (HU1.out _) | with_reducible exact Calls.quiet_of_same (HU2.out _)))
              have HG2 := hidJ (gb_none HO.out.2 (show wr.grownBy (wr.drewN nq) none from ⟨rfl, rfl, rfl, Nat.le_refl _, fun _ _ _ => rfl⟩))
              generalize wr.drewN nq = W3 at *
              go_wp2
              refine bodyPost_ret (v := .tuple #[.string (ByteArray.mk ⟨acc⟩), .int .i64 ((i : Int) + 1), .bool false]) ?_ rfl ?_
              · simp [results, Tryz.f39, go_sem]
              · exact ⟨HA.out, HG2.out⟩
            · rw [Bool.not_eq_true] at hA
              rw [hA] at HU1
              clear hA
              go_wp2_with fail
              go_quiet ((go_at_call 19; first | with_reducible exact Calls.quiet_of_same (HU1.out _) | with_reducible exact Calls.quiet_of_same (HU2.out _)))
              have HG2 := hidJ (gb_none HO.out.2 (show wr.grownBy (wr.drewN nq) none from ⟨rfl, rfl, rfl, Nat.le_refl _, fun _ _ _ => rfl⟩))
              generalize wr.drewN nq = W3 at *
              go_wp2
              refine bodyPost_ret (v := .tuple #[.string (ByteArray.mk ⟨acc⟩), .int .i64 ((i : Int) + 1), .bool false]) ?_ rfl ?_
              · simp [results, Tryz.f39, go_sem]
              · exact ⟨HA.out, HG2.out⟩

      · have hne : ¬ byN l i = byN l p := fun e => e1 (UInt8.toNat_inj.1 (by rw [hx, HQ0.out, e]))
        have e1i : ¬ (x.toNat : Int) = (q.toNat : Int) := fun e => e1 (UInt8.toNat_inj.1 (by omega))
        have e1j : ((x.toNat : Int) == (q.toNat : Int)) = false := by rw [beq_eq_false_iff_ne]; exact e1i
        clear HS HQ0 hqi e1
        by_cases e2 : x.toNat = 10
        · have HNo := hidJ (HNo0.out (HT.out.line hlt hne (by rw [← hx, e2])))
          have e2i : (x.toNat : Int) = 10 := by omega
          clear hx
          as_aux_lemma =>
            clear HT
            go_wp2
            refine bodyPost_ret (v := .tuple #[.string ⟨#[]⟩, .int .i64 0, .bool false]) ?_ rfl ?_
            · simp [results, Tryz.f39, go_sem]
            · exact ⟨tx_none HNo.out, HO.out.2⟩
        · have e2i : ¬ (x.toNat : Int) = 10 := by omega
          have e2j : ((x.toNat : Int) == 10) = false := by rw [beq_eq_false_iff_ne]; exact e2i
          by_cases e3 : x.toNat = 92
          · have e3i : (x.toNat : Int) = 92 := by omega
            have h92 : byN l i = 92 := by omega
            obtain ⟨j, hj⟩ : ∃ j, i + 1 = j := ⟨_, rfl⟩
            have hji : (i : Int) + 1 = (j : Int) := by omega
            have HEsc := hidJ (fun c k h hk => HT.out.esc hlt hpi hne h92 c k h hk)
            have HNe := hidJ (fun h => HNo0.out (HT.out.noesc hlt hne h92 h))
            rw [hj] at HEsc HNe
            clear hx hne h92 e2 hqc HT HNo0
            by_cases hlj : j < l.length
            · have hlji : (j : Int) < (l.length : Int) := by omega
              have hljk : ¬ (l.length : Int) ≤ (j : Int) := by omega
              obtain ⟨y, hy, hyi⟩ := byte_at l j hlj
              have hy256 := y.toNat_lt
              have hb0 : byN (l.drop j) 0 = y.toNat := by rw [byN_drop, Nat.add_zero, hy]

              by_cases hc92 : y.toNat = 92
              · have y92 : y.toNat = 92 := hc92
                have y92i : (y.toNat : Int) = 92 := by omega
                have HE := hidJ (HEsc.out 92 1 (by unfold escW; rw [hb0, y92]; rfl) (by decide))
                clear HEsc HNe hy hb0 hc92
                as_aux_lemma =>
                  go_wp2_with (at_builtin; refine wp_app rfl _ _ rfl w.heap.size _ _ acc [UInt8.ofNat 92] rfl rfl (HO.out.1.keep (World.grownBy_alloc _ _ _)) (rd_oneN 92 (by decide) _) ?c1a1 ?c2a1 ?_)
                  case c1a1 => first | omega | (simp; omega)
                  case c2a1 => have := HO.out.2.size; first | omega | (simp; omega)
                  intro v2 w2 ho2 hf2
                  have H2 := hidJ (show Own w2 w.heap.size v2 (acc ++ [UInt8.ofNat 92]) ∧ w.grownBy w2 none from ⟨ho2, Fr.new (gb_none HO.out.2 (World.grownBy_alloc _ _ _)) hf2 (fun k hk => (HO.out.1.lt k hk).1)⟩)
                  clear ho2 hf2 HO
                  go_wp2
                  go_roundg k
                  case measure => omega
                  case rel => exact ⟨j + 1, acc ++ [UInt8.ofNat 92], v2, rfl, by go_num, by omega, by omega, by omega, by rw [List.length_append]; simp only [List.length_cons, List.length_nil]; omega, HE.out, H2.out.1, H2.out.2⟩
              · have y92i : ¬ (y.toNat : Int) = 92 := by omega
                have y92j : ((y.toNat : Int) == 92) = false := by rw [beq_eq_false_iff_ne]; exact y92i
                by_cases hc34 : y.toNat = 34
                · have y34 : y.toNat = 34 := hc34
                  have y34i : (y.toNat : Int) = 34 := by omega
                  have HE := hidJ (HEsc.out 34 1 (by unfold escW; rw [hb0, y34]; rfl) (by decide))
                  clear HEsc HNe hy hb0 hc34
                  as_aux_lemma =>
                    go_wp2_with (at_builtin; refine wp_app rfl _ _ rfl w.heap.size _ _ acc [UInt8.ofNat 34] rfl rfl (HO.out.1.keep (World.grownBy_alloc _ _ _)) (rd_oneN 34 (by decide) _) ?c1a2 ?c2a2 ?_)
                    case c1a2 => first | omega | (simp; omega)
                    case c2a2 => have := HO.out.2.size; first | omega | (simp; omega)
                    intro v2 w2 ho2 hf2
                    have H2 := hidJ (show Own w2 w.heap.size v2 (acc ++ [UInt8.ofNat 34]) ∧ w.grownBy w2 none from ⟨ho2, Fr.new (gb_none HO.out.2 (World.grownBy_alloc _ _ _)) hf2 (fun k hk => (HO.out.1.lt k hk).1)⟩)
                    clear ho2 hf2 HO
                    go_wp2
                    go_roundg k
                    case measure => omega
                    case rel => exact ⟨j + 1, acc ++ [UInt8.ofNat 34], v2, rfl, by go_num, by omega, by omega, by omega, by rw [List.length_append]; simp only [List.length_cons, List.length_nil]; omega, HE.out, H2.out.1, H2.out.2⟩
                · have y34i : ¬ (y.toNat : Int) = 34 := by omega
                  have y34j : ((y.toNat : Int) == 34) = false := by rw [beq_eq_false_iff_ne]; exact y34i
                  by_cases hc39 : y.toNat = 39
                  · have y39 : y.toNat = 39 := hc39
                    have y39i : (y.toNat : Int) = 39 := by omega
                    have HE := hidJ (HEsc.out 39 1 (by unfold escW; rw [hb0, y39]; rfl) (by decide))
                    clear HEsc HNe hy hb0 hc39
                    as_aux_lemma =>
                      go_wp2_with (at_builtin; refine wp_app rfl _ _ rfl w.heap.size _ _ acc [UInt8.ofNat 39] rfl rfl (HO.out.1.keep (World.grownBy_alloc _ _ _)) (rd_oneN 39 (by decide) _) ?c1a3 ?c2a3 ?_)
                      case c1a3 => first | omega | (simp; omega)
                      case c2a3 => have := HO.out.2.size; first | omega | (simp; omega)
                      intro v2 w2 ho2 hf2
                      have H2 := hidJ (show Own w2 w.heap.size v2 (acc ++ [UInt8.ofNat 39]) ∧ w.grownBy w2 none from ⟨ho2, Fr.new (gb_none HO.out.2 (World.grownBy_alloc _ _ _)) hf2 (fun k hk => (HO.out.1.lt k hk).1)⟩)
                      clear ho2 hf2 HO
                      go_wp2
                      go_roundg k
                      case measure => omega
                      case rel => exact ⟨j + 1, acc ++ [UInt8.ofNat 39], v2, rfl, by go_num, by omega, by omega, by omega, by rw [List.length_append]; simp only [List.length_cons, List.length_nil]; omega, HE.out, H2.out.1, H2.out.2⟩
                  · have y39i : ¬ (y.toNat : Int) = 39 := by omega
                    have y39j : ((y.toNat : Int) == 39) = false := by rw [beq_eq_false_iff_ne]; exact y39i
                    by_cases hc110 : y.toNat = 110
                    · have y110i : (y.toNat : Int) = 110 := by omega
                      have HE := hidJ (HEsc.out 10 1 (by unfold escW; rw [hb0, hc110]; rfl) (by decide))
                      clear HEsc HNe hy hb0 hc110
                      as_aux_lemma =>
                        go_wp2_with (at_builtin; refine wp_app rfl _ _ rfl w.heap.size _ _ acc [UInt8.ofNat 10] rfl rfl (HO.out.1.keep (World.grownBy_alloc _ _ _)) (rd_oneN 10 (by decide) _) ?c1a4 ?c2a4 ?_)
                        case c1a4 => first | omega | (simp; omega)
                        case c2a4 => have := HO.out.2.size; first | omega | (simp; omega)
                        intro v2 w2 ho2 hf2
                        have H2 := hidJ (show Own w2 w.heap.size v2 (acc ++ [UInt8.ofNat 10]) ∧ w.grownBy w2 none from ⟨ho2, Fr.new (gb_none HO.out.2 (World.grownBy_alloc _ _ _)) hf2 (fun k hk => (HO.out.1.lt k hk).1)⟩)
                        clear ho2 hf2 HO
                        go_wp2
                        go_roundg k
                        case measure => omega
                        case rel => exact ⟨j + 1, acc ++ [UInt8.ofNat 10], v2, rfl, by go_num, by omega, by omega, by omega, by rw [List.length_append]; simp only [List.length_cons, List.length_nil]; omega, HE.out, H2.out.1, H2.out.2⟩
                    · have y110i : ¬ (y.toNat : Int) = 110 := by omega
                      have y110j : ((y.toNat : Int) == 110) = false := by rw [beq_eq_false_iff_ne]; exact y110i
                      by_cases hc116 : y.toNat = 116
                      · have y116i : (y.toNat : Int) = 116 := by omega
                        have HE := hidJ (HEsc.out 9 1 (by unfold escW; rw [hb0, hc116]; rfl) (by decide))
                        clear HEsc HNe hy hb0 hc116
                        as_aux_lemma =>
                          go_wp2_with (at_builtin; refine wp_app rfl _ _ rfl w.heap.size _ _ acc [UInt8.ofNat 9] rfl rfl (HO.out.1.keep (World.grownBy_alloc _ _ _)) (rd_oneN 9 (by decide) _) ?c1a5 ?c2a5 ?_)
                          case c1a5 => first | omega | (simp; omega)
                          case c2a5 => have := HO.out.2.size; first | omega | (simp; omega)
                          intro v2 w2 ho2 hf2
                          have H2 := hidJ (show Own w2 w.heap.size v2 (acc ++ [UInt8.ofNat 9]) ∧ w.grownBy w2 none from ⟨ho2, Fr.new (gb_none HO.out.2 (World.grownBy_alloc _ _ _)) hf2 (fun k hk => (HO.out.1.lt k hk).1)⟩)
                          clear ho2 hf2 HO
                          go_wp2
                          go_roundg k
                          case measure => omega
                          case rel => exact ⟨j + 1, acc ++ [UInt8.ofNat 9], v2, rfl, by go_num, by omega, by omega, by omega, by rw [List.length_append]; simp only [List.length_cons, List.length_nil]; omega, HE.out, H2.out.1, H2.out.2⟩
                      · have y116i : ¬ (y.toNat : Int) = 116 := by omega
                        have y116j : ((y.toNat : Int) == 116) = false := by rw [beq_eq_false_iff_ne]; exact y116i
                        by_cases hc114 : y.toNat = 114
                        · have y114i : (y.toNat : Int) = 114 := by omega
                          have HE := hidJ (HEsc.out 13 1 (by unfold escW; rw [hb0, hc114]; rfl) (by decide))
                          clear HEsc HNe hy hb0 hc114
                          as_aux_lemma =>
                            go_wp2_with (at_builtin; refine wp_app rfl _ _ rfl w.heap.size _ _ acc [UInt8.ofNat 13] rfl rfl (HO.out.1.keep (World.grownBy_alloc _ _ _)) (rd_oneN 13 (by decide) _) ?c1a6 ?c2a6 ?_)
                            case c1a6 => first | omega | (simp; omega)
                            case c2a6 => have := HO.out.2.size; first | omega | (simp; omega)
                            intro v2 w2 ho2 hf2
                            have H2 := hidJ (show Own w2 w.heap.size v2 (acc ++ [UInt8.ofNat 13]) ∧ w.grownBy w2 none from ⟨ho2, Fr.new (gb_none HO.out.2 (World.grownBy_alloc _ _ _)) hf2 (fun k hk => (HO.out.1.lt k hk).1)⟩)
                            clear ho2 hf2 HO
                            go_wp2
                            go_roundg k
                            case measure => omega
                            case rel => exact ⟨j + 1, acc ++ [UInt8.ofNat 13], v2, rfl, by go_num, by omega, by omega, by omega, by rw [List.length_append]; simp only [List.length_cons, List.length_nil]; omega, HE.out, H2.out.1, H2.out.2⟩
                        · have y114i : ¬ (y.toNat : Int) = 114 := by omega
                          have y114j : ((y.toNat : Int) == 114) = false := by rw [beq_eq_false_iff_ne]; exact y114i
                          by_cases hc120 : y.toNat = 120
                          · have y120i : (y.toNat : Int) = 120 := by omega
                            obtain ⟨j1, hj1⟩ : ∃ j1, j + 1 = j1 := ⟨_, rfl⟩
                            obtain ⟨j2, hj2⟩ : ∃ j2, j + 2 = j2 := ⟨_, rfl⟩
                            obtain ⟨j3, hj3⟩ : ∃ j3, j + 3 = j3 := ⟨_, rfl⟩
                            have hj1i : (j : Int) + 1 = (j1 : Int) := by omega
                            have hj2i : (j : Int) + 2 = (j2 : Int) := by omega
                            have hj3i : (j : Int) + 3 = (j3 : Int) := by omega
                            have hb1 : byN (l.drop j) 1 = byN l j1 := by rw [byN_drop, hj1]
                            have hb2 : byN (l.drop j) 2 = byN l j2 := by rw [byN_drop, hj2]
                            have hEz : hxB (byN l j1) = false ∨ hxB (byN l j2) = false ∨ ¬ byN l j1 < 56 → (escW (l.drop j)).2 = 0 := fun h => by
                              unfold escW
                              rw [hb0, hc120, if_pos rfl, if_neg]
                              rw [hb1, hb2]
                              rintro ⟨g1, g2, g3⟩
                              rcases h with h | h | h
                              · rw [g1] at h; cases h
                              · rw [g2] at h; cases h
                              · exact h g3
                            have hl1c : j2 < l.length → j1 < l.length := fun h => by omega
                            have hl3c : j2 < l.length → j3 ≤ l.length ∧ j1 ≤ j3 ∧ j + 3 ≤ l.length := fun h => by omega
                            have HJ1 := hidJ hj1
                            have HJ2 := hidJ hj2
                            have HJ3 := hidJ hj3
                            clear hj1 hj2 hj3
                            by_cases hl2 : j2 < l.length
                            · have hl1n := hl1c hl2
                              have hl2i : (j2 : Int) < (l.length : Int) := by omega
                              have hl1i : (j1 : Int) < (l.length : Int) := by omega
                              have hl2k : ¬ (l.length : Int) ≤ (j2 : Int) := by omega
                              obtain ⟨y1, hy1, hyi1⟩ := byte_at l j1 hl1n
                              obtain ⟨y2, hy2, hyi2⟩ := byte_at l j2 hl2
                              have hyl1 := y1.toNat_lt
                              have hyl2 := y2.toNat_lt
                              have HX1 := hidJ (fun W => refHex_any y1.toNat (by omega) W)
                              have HX2 := hidJ (fun W => refHex_any y2.toNat (by omega) W)
                              cases h1 : hxB (byN l j1) with
                              | false =>
                                have HNo := hidJ (HNe.out (hEz (.inl h1)))
                                rw [show hxB y1.toNat = _ from (congrArg hxB hy1).trans h1] at HX1
                                clear hl1c hl3c HEsc HNe hEz hb0 hb1 hb2 hy h1 hc120 hy1 hy2
                                as_aux_lemma =>
                                  go_wp2_with fail
                                  refine (HX1.out _).mono ?_
                                  rintro e w3 ⟨rfl, rfl⟩
                                  go_wp2
                                  refine bodyPost_ret (v := .tuple #[.string ⟨#[]⟩, .int .i64 0, .bool false]) ?_ rfl ?_
                                  · simp [results, Tryz.f39, go_sem]
                                  · exact ⟨tx_none HNo.out, HO.out.2⟩
                              | true =>
                                cases h2 : hxB (byN l j2) with
                                | false =>
                                  have HNo := hidJ (HNe.out (hEz (.inr (.inl h2))))
                                  rw [show hxB y1.toNat = _ from (congrArg hxB hy1).trans h1] at HX1
                                  rw [show hxB y2.toNat = _ from (congrArg hxB hy2).trans h2] at HX2
                                  clear hl1c hl3c HEsc HNe hEz hb0 hb1 hb2 hy h1 h2 hc120 hy1 hy2
                                  as_aux_lemma =>
                                    go_wp2_with fail
                                    refine (HX1.out _).mono ?_
                                    rintro e w3 ⟨rfl, rfl⟩
                                    go_wp2_with fail
                                    refine (HX2.out _).mono ?_
                                    rintro e w3 ⟨rfl, rfl⟩
                                    go_wp2
                                    refine bodyPost_ret (v := .tuple #[.string ⟨#[]⟩, .int .i64 0, .bool false]) ?_ rfl ?_
                                    · simp [results, Tryz.f39, go_sem]
                                    · exact ⟨tx_none HNo.out, HO.out.2⟩
                                | true =>
                                  by_cases h3 : byN l j1 < 56
                                  · have h3i : ¬ (55 : Int) < (y1.toNat : Int) := by omega
                                    have hxt : (ByteArray.mk ⟨l⟩).extract j1 (j1 + 2) = ByteArray.mk ⟨[y1, y2]⟩ := by
                                      rw [ext_mk, Nat.add_sub_cancel_left, List.drop_eq_getElem_cons (show j1 < l.length by omega), List.drop_eq_getElem_cons (show j1 + 1 < l.length by have := HJ1.out; have := HJ2.out; omega)]
                                      have a1 : l[j1]'(by omega) = y1 := hyi1 (by rw [hz]; omega)
                                      have a2 : l[j1 + 1]'(by have := HJ1.out; have := HJ2.out; omega) = y2 := by
                                        have := hyi2 (by rw [hz]; omega)
                                        rw [← this]
                                        show _ = l[j2]'(by omega)
                                        congr 1
                                        have := HJ1.out
                                        have := HJ2.out
                                        omega
                                      rw [a1, a2]
                                      rfl
                                    have hxt3 : (ByteArray.mk ⟨l⟩).extract j1 j3 = ByteArray.mk ⟨[y1, y2]⟩ := by rw [← hxt]; congr 1; have := HJ1.out; have := HJ3.out; omega
                                    obtain ⟨V, hVe⟩ : ∃ V, hvN (byN l j1) * 16 + hvN (byN l j2) = V := ⟨_, rfl⟩
                                    have hV : V < 128 := by rw [← hVe]; exact hvN_lt _ _ h1 h3 h2
                                    have hV256 : V < 256 := by omega
                                    have HE := hidJ (HEsc.out V 3 (by rw [escW_hv _ (by rw [hb0]; exact hc120) (by rw [hb1]; exact h1) (by rw [hb2]; exact h2) (by rw [hb1]; exact h3), hb1, hb2, hVe]) (by decide))
                                    have HPu := hidJ (fun W => parseUint_any W y1 y2 (by rw [hy1]; exact h1) (by omega) (by rw [hy2]; exact h2))
                                    rw [show hvN y1.toNat * 16 + hvN y2.toNat = V by rw [hy1, hy2, hVe]] at HPu
                                    rw [show hxB y1.toNat = _ from (congrArg hxB hy1).trans h1] at HX1
                                    rw [show hxB y2.toNat = _ from (congrArg hxB hy2).trans h2] at HX2
                                    obtain ⟨hj3l, hj13, hj3m⟩ := hl3c hl2
                                    have hj13i : (j1 : Int) ≤ (j3 : Int) := by omega
                                    have hj3li : (j3 : Int) ≤ (l.length : Int) := by omega
                                    clear hl1c hl3c HEsc HNe hEz hb0 hb1 hb2 hy h1 h2 hc120 hVe hxt hy1 hy2
                                    as_aux_lemma =>
                                      go_wp2_with fail
                                      refine (HX1.out _).mono ?_
                                      rintro e w3 ⟨rfl, rfl⟩
                                      go_wp2_with fail
                                      refine (HX2.out _).mono ?_
                                      rintro e w3 ⟨rfl, rfl⟩
                                      go_wp2_with fail
                                      refine (HPu.out _).mono ?_
                                      rintro e w3 ⟨rfl, hg3⟩
                                      have HO := hidJ (show Own w3 w.heap.size u8 acc ∧ w.grownBy w3 none from ⟨HO.out.1.keep hg3, gb_none HO.out.2 hg3⟩)
                                      clear hg3 HX1 HX2 HPu
                                      go_wp2_with (at_builtin; refine wp_app rfl _ _ rfl w.heap.size _ _ acc [UInt8.ofNat V] rfl rfl (HO.out.1.keep (World.grownBy_alloc _ _ _)) (rd_oneN V hV256 _) ?c1a7 ?c2a7 ?_)
                                      case c1a7 => first | omega | (simp; omega)
                                      case c2a7 => have := HO.out.2.size; first | omega | (simp; omega)
                                      intro v2 w2 ho2 hf2
                                      have H2 := hidJ (show Own w2 w.heap.size v2 (acc ++ [UInt8.ofNat V]) ∧ w.grownBy w2 none from ⟨ho2, Fr.new (gb_none HO.out.2 (World.grownBy_alloc _ _ _)) hf2 (fun k hk => (HO.out.1.lt k hk).1)⟩)
                                      clear ho2 hf2 HO
                                      go_wp2
                                      go_roundg k
                                      case measure => omega
                                      case rel => exact ⟨j + 3, acc ++ [UInt8.ofNat V], v2, rfl, by go_num, by omega, by omega, by omega, by rw [List.length_append]; simp only [List.length_cons, List.length_nil]; omega, HE.out, H2.out.1, H2.out.2⟩
                                  · have h3i : (55 : Int) < (y1.toNat : Int) := by omega
                                    have HNo := hidJ (HNe.out (hEz (.inr (.inr h3))))
                                    rw [show hxB y1.toNat = _ from (congrArg hxB hy1).trans h1] at HX1
                                    rw [show hxB y2.toNat = _ from (congrArg hxB hy2).trans h2] at HX2
                                    clear hl1c hl3c HEsc HNe hEz hb0 hb1 hb2 hy h1 h2 h3 hc120 hy1 hy2
                                    as_aux_lemma =>
                                      go_wp2_with fail
                                      refine (HX1.out _).mono ?_
                                      rintro e w3 ⟨rfl, rfl⟩
                                      go_wp2_with fail
                                      refine (HX2.out _).mono ?_
                                      rintro e w3 ⟨rfl, rfl⟩
                                      go_wp2
                                      refine bodyPost_ret (v := .tuple #[.string ⟨#[]⟩, .int .i64 0, .bool false]) ?_ rfl ?_
                                      · simp [results, Tryz.f39, go_sem]
                                      · exact ⟨tx_none HNo.out, HO.out.2⟩
                            · have hl2k : (l.length : Int) ≤ (j2 : Int) := by omega
                              have HNo := hidJ (HNe.out (hEz (.inr (.inl (by rw [byN_out l _ (by omega)]; rfl)))))
                              clear hl1c hl3c HEsc HNe hEz hb0 hb1 hb2 hy hc120
                              as_aux_lemma =>
                                go_wp2
                                refine bodyPost_ret (v := .tuple #[.string ⟨#[]⟩, .int .i64 0, .bool false]) ?_ rfl ?_
                                · simp [results, Tryz.f39, go_sem]
                                · exact ⟨tx_none HNo.out, HO.out.2⟩
                          · have y120i : ¬ (y.toNat : Int) = 120 := by omega
                            have y120j : ((y.toNat : Int) == 120) = false := by rw [beq_eq_false_iff_ne]; exact y120i
                            have HNo := hidJ (HNe.out (by unfold escW; rw [hb0, if_neg hc120, if_neg hc110, if_neg hc116, if_neg hc114, if_neg (by omega)]))
                            clear HEsc HNe hb0 hy hc92 hc34 hc39 hc110 hc116 hc114 hc120
                            as_aux_lemma =>
                              go_wp2
                              refine bodyPost_ret (v := .tuple #[.string ⟨#[]⟩, .int .i64 0, .bool false]) ?_ rfl ?_
                              · simp [results, Tryz.f39, go_sem]
                              · exact ⟨tx_none HNo.out, HO.out.2⟩

            · have hljk : (l.length : Int) ≤ (j : Int) := by omega
              have HNo := hidJ (HNe.out (by rw [List.drop_eq_nil_of_le (by omega)]; rfl))
              clear HEsc HNe
              as_aux_lemma =>
                go_wp2
                refine bodyPost_ret (v := .tuple #[.string ⟨#[]⟩, .int .i64 0, .bool false]) ?_ rfl ?_
                · simp [results, Tryz.f39, go_sem]
                · exact ⟨tx_none HNo.out, HO.out.2⟩
          · have e3i : ¬ (x.toNat : Int) = 92 := by omega
            have e3j : ((x.toNat : Int) == 92) = false := by rw [beq_eq_false_iff_ne]; exact e3i
            have HE := hidJ (HT.out.plain hlt hpi hne (by omega) (by omega))
            rw [← hx, UInt8.ofNat_toNat] at HE
            clear HT HNo0 hx hne e2 e3 hqc
            as_aux_lemma =>
              go_wp2_with (at_builtin; refine wp_app rfl _ _ rfl w.heap.size _ _ acc [x] rfl rfl (HO.out.1.keep (World.grownBy_alloc _ _ _)) (rd_oneB x _) ?c1a8 ?c2a8 ?_)
              case c1a8 => first | omega | (simp; omega)
              case c2a8 => have := HO.out.2.size; first | omega | (simp; omega)
              intro v2 w2 ho2 hf2
              have H2 := hidJ (show Own w2 w.heap.size v2 (acc ++ [x]) ∧ w.grownBy w2 none from ⟨ho2, Fr.new (gb_none HO.out.2 (World.grownBy_alloc _ _ _)) hf2 (fun k hk => (HO.out.1.lt k hk).1)⟩)
              clear ho2 hf2 HO
              go_wp2
              go_roundg k
              case measure => omega
              case rel => exact ⟨i + 1, acc ++ [x], v2, rfl, by go_num, by omega, by omega, by omega, by rw [List.length_append]; simp only [List.length_cons, List.length_nil]; omega, HE.out, H2.out.1, H2.out.2⟩
    · obtain rfl : i = l.length := by omega
      have hli : ¬ (l.length : Int) < (l.length : Int) := by omega
      have HNo := hidJ (HNo0.out (HT.out.out (Nat.le_refl _)))
      clear HNo0 HS
      as_aux_lemma =>
        clear HT
        go_wp2
        refine bodyPost_ret (v := .tuple #[.string ⟨#[]⟩, .int .i64 0, .bool false]) ?_ rfl ?_
        · simp [results, Tryz.f39, go_sem]
        · exact ⟨tx_none HNo.out, HO.out.2⟩
end Go.Proofs.YtifjdfmmafbhkaaGreatDoor
