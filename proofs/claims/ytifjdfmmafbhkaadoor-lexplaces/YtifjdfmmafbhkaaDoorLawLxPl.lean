/-
  LexPlaces: tokens rise, stand where they are told, and are the same in a text that is cut ahead of one of them: the law's own walk.
-/
import Derived.Test.YtifjdfmmafbhkaaDoorLxW
import Derived.Deep.QuietTactic
namespace Go.Proofs.YtifjdfmmafbhkaaDoor
open Go.RowKit

theorem run_headT (W : World) (a : Option Addr) (n c p : Nat) (hp : p ≤ n) (hc : n ≤ c) : (Instr.slice 22 (.slice a n c) none (some (.int .i64 (p : Int))) none).run Tryd.prog W = .ok (.slice a p c) W := by
  have ht' : Tryd.prog.underlying 22 = some (.slice (Tryd.prog.elem 22)) := by simp [Program.elem, Tryd.underlying22]
  have he : Tryd.prog.elem 22 = 28 := by simp [Program.elem, Tryd.underlying22]
  rw [run_slice_h W _ _ _ _ ht' .i64 _ (by omega) (by omega), he, Tryd.sizeOf28]
  have hm : (Option.map (fun x => Addr.add x (0 * 3)) a) = a := by cases a <;> simp [Addr.add]
  simp [Result.andThen, sliced]
  intro _
  simpa using hm
theorem wrap64_id' (x : Int) (h0 : -9223372036854775808 ≤ x) (h1 : x ≤ 9223372036854775807) : IntKind.i64.wrap x = x := by
  simp [IntKind.wrap, IntKind.signed, IntKind.bits]
  omega
set_option maxRecDepth 8000 in
set_option maxHeartbeats 12800000 in
theorem lxPlaces_walk (w : World) (l : LxS) (hl : l.length ≤ 140737488351232) (hT : U8S w) (hU : UnT w) (hP : P10 w) :
    Calls Tryd.prog 5 #[.string (ByteArray.mk ⟨l⟩)] w fun e w' => e = .returned (.bool true) ∧ Below w.heap.size w w' := by
  have hz : (ByteArray.mk ⟨l⟩).size = l.length := rfl
  have H1 := hidJ (tokens_any w l hl hT hU)
  have HT := hidJ hT
  have HU := hidJ hU
  have HP := hidJ hP
  have HK : Hid (∀ W, w.grownBy W none → Calls Tryd.prog 10 #[] W fun e w' => e = .returned (.bool true) ∧ W.grownBy w' none) := fun W h => known_any W (hT.keep h) (hU.keep h) (hP.keep h)
  have hc := tokW_cases l
  have HW := hidJ (tokW_cut l)
  have HF := hidJ (tokW_facts l)
  clear hT hU hP
  generalize htk : tokW l = T at *
  obtain ⟨r, er, ar⟩ := T
  dsimp only at *
  by_cases hok : er = 0 ∧ ar = 0
  · obtain ⟨rfl, rfl⟩ := hok
    obtain ⟨hn0, hn1, hlast, hfa⟩ := HF.out r rfl
    have HFa := hidJ hfa
    have HCu := hidJ (HW.out r rfl)
    have HLa := hidJ hlast
    clear hc HW HF hfa hlast htk
    go_enter Tryd.func5, Tryd.ntmps5
    go_wp2_with fail
    refine H1.out.mono ?_
    rintro e w1 ⟨v, rfl, ho, hg1⟩
    have HR := hidJ ho.rd
    obtain ⟨g, cap, rfl, hbg, hgs, hcap, hcl⟩ := ho.form (List.length_pos_iff.1 hn0)
    have HC := hidJ hcl
    have HG := hidJ hg1
    have HGs := hidJ hgs
    obtain ⟨n, hn⟩ : ∃ n, r.length = n := ⟨_, rfl⟩
    have HN := hidJ hn
    rw [hn] at hn0 hn1 hcap HFa HC HR HLa
    simp only [hn]
    have hlen := fun W ty => len_tokens W ty (some ⟨g, 0, none⟩) n cap
    clear hg1 H1 hcl hbg hgs ho hn
    go_wp2_with fail
    go_loopg [6, 7] (n + 1) (fun gk v6 v7 wr => ∃ i : Nat, v6 = .int .i64 (if i = 0 then 0 else tkTo (r.getD (i - 1) tkD)) ∧ v7 = .int .i64 (i : Int) ∧ n < i + gk ∧ i ≤ n ∧ Hid (w1.grownBy wr none))
    case atStart => exact ⟨0, rfl, rfl, by omega, by omega, gb_refl _ _⟩
    case round =>
      obtain ⟨i, rfl, rfl, hg, hin, hr⟩ := hrel
      by_cases hlt : i < n
      · obtain ⟨k, rfl⟩ : ∃ k, gk = k + 1 := ⟨gk - 1, by omega⟩
        have hli : (i : Int) < (n : Int) := by omega
        have hF := HFa.out i hlt
        obtain ⟨x0, x1, x2⟩ := HC.out i hlt
        have y0 := cell_keep hr.out x0
        have y1 := cell_keep hr.out x1
        have y2 := cell_keep hr.out x2
        have HTo := hidJ (show tkTo (r.getD i tkD) = if (r.getD i tkD).1 = 4 ∨ (r.getD i tkD).1 = 0 then (r.getD i tkD).2.2 else (r.getD i tkD).2.2 + (r.getD i tkD).2.1.length from rfl)
        obtain ⟨f1, f2, f3, f4, f5, f6⟩ := hF
        have hidx : (if i + 1 = 0 then (0 : Int) else tkTo (r.getD (i + 1 - 1) tkD)) = tkTo (r.getD i tkD) := by rw [if_neg (by omega), Nat.add_sub_cancel]
        have HI := hidJ hidx
        clear x0 x1 x2 hidx
        generalize (if i = 0 then (0 : Int) else tkTo (r.getD (i - 1) tkD)) = fr at *
        generalize tkTo (r.getD i tkD) = nx at *
        generalize r.getD i tkD = t at *
        obtain ⟨kd, tx, at1⟩ := t
        dsimp only at *
        obtain ⟨p, rfl⟩ : ∃ p : Nat, at1 = (p : Int) := ⟨at1.toNat, by omega⟩
        have q0 := alloc_at wr (.cells #[.int .i64 kd, .string (ByteArray.mk ⟨tx⟩), .int .i64 (p : Int)] 28)
        obtain ⟨c0, c1, c2, -⟩ := blk_cells q0
        have HG2 := hidJ (gb_none hr.out (World.grownBy_alloc wr (.cells #[.int .i64 kd, .string (ByteArray.mk ⟨tx⟩), .int .i64 (p : Int)] 28) none))
        have g1 : ¬ (p : Int) < fr := by omega
        have g2 : ¬ (l.length : Int) < (p : Int) := by omega
        clear q0
        by_cases ck : i + 1 = n
        · have hk0 : kd = 0 := f4.2 ck
          subst hk0
          have hik : (n : Int) - 1 = (i : Int) := by omega
          have hnx : nx = (p : Int) := by rw [HTo.out, if_pos (Or.inr rfl)]
          rw [hnx] at HI
          clear f4 f6 HTo
          go_wp2_with fail
          go_roundg k
          case measure => omega
          case rel => exact ⟨i + 1, by rw [HI.out], by go_num, by omega, by omega, HG2.out⟩
        · have hk0 : kd ≠ 0 := fun h => ck (f4.1 h)
          have hk1 : (kd == 0) = false := by rw [beq_eq_false_iff_ne]; exact hk0
          have hik : ((i : Int) == (n : Int) - 1) = false := by rw [beq_eq_false_iff_ne]; omega
          have hik2 : ¬ (i : Int) = (n : Int) - 1 := by omega
          by_cases ck4 : kd = 4
          · subst ck4
            have hnx : nx = (p : Int) := by rw [HTo.out, if_pos (Or.inl rfl)]
            rw [hnx] at HI
            clear f4 f6 HTo hk0 hk1 ck
            go_wp2_with fail
            go_roundg k
            case measure => omega
            case rel => exact ⟨i + 1, by rw [HI.out], by go_num, by omega, by omega, HG2.out⟩
          · obtain ⟨g3, g4, g5⟩ := f6 ck4 hk0
            have hk4 : (kd == 4) = false := by rw [beq_eq_false_iff_ne]; exact ck4
            have hnx : nx = (p : Int) + (tx.length : Int) := by rw [HTo.out, if_neg (by omega)]
            rw [hnx] at HI
            rw [Int.toNat_natCast] at g5
            have hxs : (ByteArray.mk ⟨l⟩).extract p (p + tx.length) = ByteArray.mk ⟨tx⟩ := by rw [ext_mk, Nat.add_sub_cancel_left, ← g5]
            have htl : 0 < tx.length := List.length_pos_iff.2 g3
            have hzt : (ByteArray.mk ⟨tx⟩).size = tx.length := rfl
            have htt : ((ByteArray.mk ⟨tx⟩).toList == (ByteArray.mk ⟨tx⟩).toList) = true := by simp
            clear f4 f6 HTo ck hnx g5 g3
            generalize ByteArray.mk ⟨tx⟩ = st at *
            generalize tx.length = m at *
            have m1 : ¬ (m : Int) = 0 := by omega
            have m2 : ((m : Int) == 0) = false := by rw [beq_eq_false_iff_ne]; omega
            have m3 : ¬ (l.length : Int) - (p : Int) < (m : Int) := by omega
            have m4 : IntKind.i64.wrap ((p : Int) + (m : Int)) = (p : Int) + (m : Int) := wrap64_id' _ (by omega) (by omega)
            have m5 : IntKind.i64.wrap ((l.length : Int) - (p : Int)) = (l.length : Int) - (p : Int) := wrap64_id' _ (by omega) (by omega)
            have hsl : ∀ W, (Instr.slice 9 (.string (ByteArray.mk ⟨l⟩)) (some (.int .i64 (p : Int))) (some (.int .i64 ((p : Int) + (m : Int)))) none).run Tryd.prog W = .ok (.string st) W := fun W => by
              rw [run_slice_string W 9 (ByteArray.mk ⟨l⟩) .i64 .i64 (p : Int) ((p : Int) + (m : Int)) Tryd.underlying9 (by omega) (by omega) (by rw [hz]; omega), ← hxs]
              rfl
            go_wp2_with fail
            go_quiet (fail)
            have hgd : (wr.alloc (.cells #[.int .i64 kd, .string st, .int .i64 (p : Int)] 28)).grownBy ((wr.alloc (.cells #[.int .i64 kd, .string st, .int .i64 (p : Int)] 28)).drewN nq) none := ⟨rfl, rfl, rfl, Nat.le_refl _, fun _ _ _ => rfl⟩
            have HG3 := hidJ (gb_none HG2.out hgd)
            have e1 := cell_keep hgd c1
            have e2 := cell_keep hgd c2
            clear hgd c0 c1 c2 HG2 y0 y1 y2
            generalize (wr.alloc (.cells #[.int .i64 kd, .string st, .int .i64 (p : Int)] 28)).drewN nq = W3 at *
            go_wp2
            go_roundg k
            case measure => omega
            case rel => exact ⟨i + 1, by rw [HI.out], by go_num, by omega, by omega, HG3.out⟩
      · obtain rfl : i = n := by omega
        have hG := hidJ (gb_none HG.out hr.out)
        have HR2 := hidJ (HR.out.keep hr.out)
        have HC2 := hidJ (fun j hj => cell_keep hr.out (HC.out j hj).2.2)
        have HLow := hidJ (fun j hj => (HFa.out j hj).low)
        clear HC HR HG hr HFa
        generalize (if i = 0 then (0 : Int) else tkTo (r.getD (i - 1) tkD)) = fr at *
        have n0 : ¬ (i : Int) = 0 := by omega
        have n0' : ((i : Int) == 0) = false := by rw [beq_eq_false_iff_ne]; omega
        by_cases c50 : 50 < i ∨ 2000 < l.length
        · have c3 : (50 : Int) < (i : Int) ∨ (¬ (50 : Int) < (i : Int) ∧ (2000 : Int) < (l.length : Int)) := by omega
          have n1 : (0 : Int) < (i : Int) := by omega
          clear c50
          rcases c3 with c3 | ⟨c3, c4⟩
          all_goals
            go_wp2_with (first | (go_at_call 10; refine (HK.out _ hG.out).mono ?_; rintro e w2 ⟨rfl, hg2⟩; have H2 := hidJ (gb_none hG.out hg2); clear hg2))
            go_ret
            exact ⟨rfl, gb_below H2.out⟩
        · have c3 : ¬ (50 : Int) < (i : Int) := by omega
          have c4 : ¬ (2000 : Int) < (l.length : Int) := by omega
          clear c50
          go_wp2_with fail
          obtain ⟨Wb, hWb⟩ : ∃ Wb, Wb = wr := ⟨_, rfl⟩
          subst hWb
          go_loopg [9] (i + 1) (fun gk v9 wq => ∃ j : Nat, v9 = .int .i64 (j : Int) ∧ i < j + gk ∧ j ≤ i ∧ Hid (Wb.grownBy wq none))
          case atStart => exact ⟨0, rfl, by omega, by omega, gb_refl _ _⟩
          case round =>
            obtain ⟨j, rfl, hgj, hji, hq⟩ := hrel
            by_cases hlt2 : j < i
            · obtain ⟨k, rfl⟩ : ∃ k, gk = k + 1 := ⟨gk - 1, by omega⟩
              have hjl : (j : Int) < (i : Int) := by omega
              obtain ⟨q, hqe⟩ : ∃ q : Nat, (r.getD j tkD).2.2 = (q : Int) := ⟨(r.getD j tkD).2.2.toNat, by have := HLow.out j hlt2; omega⟩
              have xc := cell_keep hq.out (HC2.out j hlt2)
              rw [hqe] at xc
              obtain ⟨hql, hcut⟩ := HCu.out j (by rw [HN.out]; exact hlt2) q hqe
              have hqi : (q : Int) ≤ (l.length : Int) := by omega
              have hxq := ext_take l q
              have hG4 := hidJ (gb_none hG.out hq.out)
              have HTk := hidJ (tokens_any wr (l.take q) (by rw [List.length_take]; omega) (HT.out.keep hG4.out) (HU.out.keep hG4.out))
              rw [hcut] at HTk
              have HR3 := hidJ (HR2.out.keep hq.out)
              clear hqe hcut HC2 HLow HCu HLa
              generalize l.take q = tq at *
              go_wp2_with fail
              refine HTk.out.mono ?_
              rintro e w4 ⟨v4, rfl, ho4, hg4⟩
              have hl4 : (r.take j ++ [((0 : Int), ([] : LxS), (q : Int))]).length = j + 1 := by rw [List.length_append, List.length_take, HN.out]; simp only [List.length_cons, List.length_nil]; omega
              have hr4 := ho4.rd
              obtain ⟨a4, cp4, rfl⟩ := ho4.shape
              have ht4 := hr4.take j (by omega)
              have hcp4 : j + 1 ≤ cp4 := by
                obtain ⟨a', c', e, h1, -⟩ := hr4
                injection e with e1 e2 e3
                rw [hl4] at h1
                omega
              rw [hl4] at hr4 ⊢
              have htk : (r.take j ++ [((0 : Int), ([] : LxS), (q : Int))]).take j = r.take j := by rw [List.take_append_of_le_length (by rw [List.length_take, HN.out]; omega), List.take_take, Nat.min_self]
              rw [htk] at ht4
              have hG5 := hidJ (gb_none hG4.out hg4)
              have hG6 := hidJ (gb_none hq.out hg4)
              have HR4 := HR3.out.keep hg4
              have HR5 := hidJ (show RdT w4 (.slice (some ⟨g, 0, none⟩) j cap) (r.take j) from by
                have h0 : RdT w4 (.slice (some ⟨g, 0, none⟩) r.length cap) r := by rw [HN.out]; exact HR4
                exact h0.take j (by rw [HN.out]; omega))
              have HSm : Hid (∀ W, w4.grownBy W none → Calls Tryd.prog 12 #[.slice a4 j cp4, .slice (some ⟨g, 0, none⟩) j cap] W fun e w' => e = .returned (.bool true) ∧ Hid (Wb.grownBy w' none)) := fun W h => by
                have h2 := same_any W _ _ _ _ (ht4.keep h) (HR5.out.keep h)
                rw [sameB_refl] at h2
                exact h2.mono fun e w' h3 => ⟨h3.1, gb_none (gb_none hG6.out h) h3.2⟩
              have hs1 := fun W => run_headT W a4 (j + 1) cp4 j (by omega) hcp4
              have hs2 := fun W => run_headT W (some ⟨g, 0, none⟩) i cap j (by omega) hcap
              have hlen4 := fun W ty => len_tokens W ty a4 (j + 1) cp4
              have hj1 : IntKind.i64.wrap ((j : Int) + 1) = (j : Int) + 1 := wrap64_id' _ (by omega) (by omega)
              clear hl4 hr4 ho4 ht4 htk HR4 HR5 HTk hG4 HR3 hg4
              go_wp2_with fail
              go_region_held3 (fun _ => True) (go_keep) (first | (go_at_call 12; refine (HSm.out _ ?_).mono ?_; (first | exact gb_refl _ _ | exact gb_drew _ _); rintro e w5 ⟨rfl, hg5⟩))
              go_wp2
              go_roundg k
              case measure => omega
              case rel => exact ⟨j + 1, by go_num, by omega, by omega, hg5⟩
            · obtain rfl : j = i := by omega
              have hG4 := hidJ (gb_none hG.out hq.out)
              have xc := cell_keep hq.out (HC2.out (j - 1) (by omega))
              rw [HLa.out] at xc
              dsimp only at xc
              have hj1 : (0 : Int) ≤ (j : Int) - 1 := by omega
              have hj2 : (j : Int) - 1 < (j : Int) := by omega
              clear HC2 HLow HCu HLa
              go_wp2_with (first | (go_at_call 10; refine (HK.out _ hG4.out).mono ?_; rintro e w2 ⟨rfl, hg2⟩; have H2 := hidJ (gb_none hG4.out hg2); clear hg2))
              go_ret
              exact ⟨rfl, gb_below H2.out⟩
  · rcases hc with hc | ⟨rfl, he, ha0, ha1⟩
    · exact absurd ⟨congrArg (·.1) hc, congrArg (·.2) hc⟩ hok
    · have hne : ¬ er = 0 := by omega
      have hne2 : (er == 0) = false := by rw [beq_eq_false_iff_ne]; exact hne
      clear HW HF htk hok he
      go_enter Tryd.func5, Tryd.ntmps5
      go_wp2_with fail
      refine H1.out.mono ?_
      rintro e w1 ⟨v, rfl, ho, hg1⟩
      obtain ⟨a1, c1, rfl⟩ := ho.shape
      have HG := hidJ hg1
      have hlen := fun W ty => len_tokens W ty a1 0 c1
      rw [List.length_nil]
      clear hg1 H1 ho
      go_wp2_with (first | (go_at_call 10; refine (HK.out _ HG.out).mono ?_; rintro e w2 ⟨rfl, hg2⟩; have H2 := hidJ (gb_none HG.out hg2); clear hg2))
      go_ret
      exact ⟨rfl, gb_below H2.out⟩
end Go.Proofs.YtifjdfmmafbhkaaDoor
