/-
  VintTorn is true for every input: frames one behind the other, cut anywhere: just those that are whole; with a bit turned within the first frame's bytes none.
-/
import Derived.Test.YtgbpnkamamafjaaDoorTornW
namespace Go.Proofs.YtgbpnkamamafjaaDoor
open Go.ChangeShapes Go.WideShapes Go.ChangeAt Go.RowKit

def endsOf (qs : List (List UInt8)) (m : Nat) : List Int := (List.range m).map fun j => ((cat (qs.take (j + 1))).length : Int)
theorem endsOf_len (qs : List (List UInt8)) (m : Nat) : (endsOf qs m).length = m := by simp [endsOf]
theorem endsOf_get (qs : List (List UInt8)) (m j : Nat) (h : j < m) : (endsOf qs m).getD j 0 = ((cat (qs.take (j + 1))).length : Int) := by simp [endsOf, List.getD, h]
theorem endsOf_succ (qs : List (List UInt8)) (m : Nat) : endsOf qs (m + 1) = endsOf qs m ++ [((cat (qs.take (m + 1))).length : Int)] := by simp [endsOf, List.range_succ]
theorem uv_le3 {n : Nat} (h : n ≤ 65536) : (uv n).length ≤ 3 := uv_len 2 n (by omega)
theorem cat_le (qs : List (List UInt8)) (h : ∀ p ∈ qs, p.length ≤ 65536) : (cat qs).length ≤ 65543 * qs.length := by
  induction qs with
  | nil => simp [cat]
  | cons p qs ih =>
    have e : cat (p :: qs) = frame p ++ cat qs := rfl
    have h1 := ih (fun q hq => h q (List.mem_cons_of_mem _ hq))
    have h2 := h p List.mem_cons_self
    have h3 := uv_le3 h2
    rw [e, List.length_append, frame_len, List.length_cons]
    omega
theorem take_take_lt (ps : List (List UInt8)) {m j : Nat} (h : j ≤ m) : (ps.take m).take j = ps.take j := by rw [List.take_take, Nat.min_eq_left h]
theorem mem_take {ps : List (List UInt8)} {m : Nat} (h : ∀ j, j < m → (ps.getD j []).length ≤ 65536) : ∀ p ∈ ps.take m, p.length ≤ 65536 := by
  intro p hp
  obtain ⟨j, hj, rfl⟩ := List.getElem_of_mem hp
  have h1 : j < m := by simp at hj; omega
  have h2 : j < ps.length := by simp at hj; omega
  have := h j h1
  simp only [List.getD, List.getElem?_eq_getElem h2, Option.getD_some] at this
  rw [List.getElem_take]
  exact this

theorem cat_zero {ps : List (List UInt8)} {N : Nat} : (cat (ps.take 0)).length ≤ N := by simp [cat]
theorem cat_ne {ps : List (List UInt8)} {m : Nat} (h0 : 0 < m) (h : m ≤ ps.length) : cat (ps.take m) ≠ [] := by
  obtain ⟨j, rfl⟩ : ∃ j, m = j + 1 := ⟨m - 1, by omega⟩
  intro hc
  have := cat_take (ps := ps) (j := j) (by omega)
  rw [hc] at this
  have h2 := frame_pos (ps.getD j [])
  have h3 := congrArg List.length this
  simp only [List.length_nil, List.length_append] at h3
  omega
theorem cat_one {ps : List (List UInt8)} (h : 0 < ps.length) : cat (ps.take (0 + 1)) = frame (ps.getD 0 []) := by
  rw [cat_take h]
  simp [cat]
theorem cat_head {ps : List (List UInt8)} {m : Nat} (h0 : 0 < m) (h : m ≤ ps.length) : cat (ps.take m) = frame (ps.getD 0 []) ++ cat ((ps.take m).drop 1) := by
  have h1 := cat_split (ps := ps.take m) (j := 0) (by simp; omega)
  have h2 : (ps.take m).getD 0 [] = ps.getD 0 [] := by simp [List.getD, h0]
  rw [h2] at h1
  simpa [cat] using h1
theorem getD_take (ps : List (List UInt8)) {j k : Nat} (h : k < j) : (ps.take j).getD k [] = ps.getD k [] := by simp [List.getD, h]
theorem count_N (z : Int) (L : Nat) (w : World) (hL : L ≤ 1310860) : ∃ N : Nat, N ≤ L ∧ Hid (Calls Tryd.prog 38 #[.int .i64 z, .int .i64 ((L : Int) + 1)] w fun e w' => e = .returned (.int .i64 (N : Int)) ∧ w' = w) := by
  have h := count_any z (L + 1) ((L : Int) + 1) (by omega) w (by omega) (by omega)
  have h1 := Int.emod_nonneg z (b := ((L + 1 : Nat) : Int)) (by omega)
  have h2 := Int.emod_lt_of_pos z (b := ((L + 1 : Nat) : Int)) (by omega)
  exact ⟨(z % ((L + 1 : Nat) : Int)).toNat, by omega, h⟩
theorem count_K (z : Int) (L : Nat) (w : World) (h0 : 0 < L) (hL : L ≤ 65536) : ∃ N : Nat, N < 8 * L ∧ Hid (Calls Tryd.prog 38 #[.int .i64 z, .int .i64 (8 * (L : Int))] w fun e w' => e = .returned (.int .i64 (N : Int)) ∧ w' = w) := by
  have h := count_any z (8 * L) (8 * (L : Int)) (by omega) w (by omega) (by omega)
  have h1 := Int.emod_nonneg z (b := ((8 * L : Nat) : Int)) (by omega)
  have h2 := Int.emod_lt_of_pos z (b := ((8 * L : Nat) : Int)) (by omega)
  exact ⟨(z % ((8 * L : Nat) : Int)).toNat, by omega, h⟩
theorem turn_byte (y : UInt8) (r : Nat) (hr : r < 8) : ∃ y1 : UInt8, bits .xor .u8 (y.toNat : Int) (2 ^ r % 256) = (y1.toNat : Int) ∧ y1 ≠ y := by
  have key : ∀ (c : UInt8) (z : Int), c ≠ 0 → z = (c.toNat : Int) → ∃ y1 : UInt8, bits .xor .u8 (y.toNat : Int) z = (y1.toNat : Int) ∧ y1 ≠ y := by
    intro c z hc hz
    subst hz
    refine ⟨y ^^^ c, ?_, ?_⟩
    · have h := u8_xor_nat y.toNat c.toNat y.toNat_lt c.toNat_lt
      rw [UInt8.toNat_xor]
      exact h
    · intro h
      apply hc
      have h2 := congrArg (fun z => y ^^^ z) h
      simpa [← UInt8.xor_assoc] using h2
  match r, hr with
  | 0, _ => exact key 1 _ (by decide) (by decide)
  | 1, _ => exact key 2 _ (by decide) (by decide)
  | 2, _ => exact key 4 _ (by decide) (by decide)
  | 3, _ => exact key 8 _ (by decide) (by decide)
  | 4, _ => exact key 16 _ (by decide) (by decide)
  | 5, _ => exact key 32 _ (by decide) (by decide)
  | 6, _ => exact key 64 _ (by decide) (by decide)
  | 7, _ => exact key 128 _ (by decide) (by decide)
theorem turn_frames (p R : List UInt8) (hp : p.length ≤ 65536) (q : Nat) (hq : q < p.length) (b : UInt8) (hb : b ≠ (frame p ++ R).getD ((uv p.length).length + 4 + q) 0) : frames ((frame p ++ R).set ((uv p.length).length + 4 + q) b) = ([], 0, 11) := by
  have e : frame p ++ R = (uv p.length ++ le4 (crc p)) ++ (p ++ R) := by unfold frame; simp only [List.append_assoc]
  have hl : (uv p.length ++ le4 (crc p)).length = (uv p.length).length + 4 := by rw [List.length_append, le4_len]
  have e1 : (frame p ++ R).getD ((uv p.length).length + 4 + q) 0 = p.getD q 0 := by
    simp only [List.getD]
    rw [e, List.getElem?_append_right (by omega), hl, Nat.add_sub_cancel_left, List.getElem?_append_left hq]
  have e2 : (frame p ++ R).set ((uv p.length).length + 4 + q) b = uv p.length ++ (le4 (crc p) ++ (p.set q b ++ R)) := by
    rw [e, List.set_append_right _ _ (by omega), hl, Nat.add_sub_cancel_left, List.set_append_left _ _ hq, List.append_assoc]
  rw [e2]
  rw [e1] at hb
  exact frames_turned p (p.set q b) R hp (by simp) (crc_set p q hq b hb)
theorem frs_call (w : World) (base g cap : Nat) (ps : List (List UInt8)) (m j N : Nat) (ho : Own w base (.slice (some ⟨g, 0, none⟩) (cat (ps.take m)).length cap) (cat (ps.take m))) (hT : TabIn w) (hall : ∀ j, j < m → (ps.getD j []).length ≤ 65536) (hm : m ≤ ps.length) (hj : j ≤ m)
    (hN : N ≤ (cat (ps.take m)).length) (h1 : (cat (ps.take j)).length ≤ N) (h2 : j < m → N < (cat (ps.take (j + 1))).length) (hs : (cat (ps.take m)).length ≤ 16777216) :
    Hid (Calls Tryd.prog 34 #[.slice (some ⟨g, 0, none⟩) N cap] w fun x w' => ∃ s vals e, ∃ d : Bool, x = .returned (.tuple #[s, .int .i64 ((cat (ps.take j)).length : Int), .int .i64 e]) ∧ OwnV w' w.heap.size s vals ∧ Els w' w.heap.size vals (ps.take j) ∧ (e == 0) = d ∧ (((cat (ps.take j)).length : Int) == (N : Int)) = d ∧ w.grownBy w' none) := by
  have hrd := ho.rd.cut 0 N (by omega)
  rw [List.drop_zero, Nat.zero_add, Nat.sub_zero] at hrd
  have hml : (ps.take m).length = m := by simp; omega
  obtain ⟨e, he, hee⟩ := frames_cat (ps.take m) (mem_take hall) N j hN (by omega) (by rw [take_take_lt ps hj]; exact h1) (fun h => by rw [take_take_lt ps (by omega)]; exact h2 (by omega))
  rw [take_take_lt ps hj] at he hee
  have hf := frames_any _ _ w hrd hT (by rw [List.length_take]; omega)
  rw [he] at hf
  refine hf.mono ?_
  rintro x w' ⟨s, vals, hx, hov, hel, -, hg⟩
  refine ⟨s, vals, e, decide (e = 0), hx, hov, hel, by rfl, ?_, hg⟩
  rw [Bool.beq_eq_decide_eq]
  congr 1
  apply propext
  rw [hee]
  omega

set_option maxRecDepth 8000 in
set_option maxHeartbeats 25600000 in
theorem torn_walk (v : Value) (ps : List (List UInt8)) (cut bit : Int) (w : World) (hv : LL w v ps) (hT : TabIn w) :
    Calls Tryd.prog 8 #[v, .int .i64 cut, .int .i64 bit] w fun e w' => e = .returned (.bool true) ∧ Below w.heap.size w w' := by
  have HV : Hid (LL w v ps) := hv
  have HT : Hid (TabIn w) := hT
  obtain ⟨a, c, hvv, hml, -⟩ := hv
  subst hvv
  unfold maxLen at hml
  have HML : Hid (ps.length ≤ 9223372036854775807) := hml
  clear hT hml
  go_enter Tryd.func8, Tryd.ntmps8
  go_wp2
  go_loopw [7, 8, 9] (fun b en i wr => ∃ m : Nat, m ≤ ps.length ∧ m ≤ 20 ∧ i = .int .i64 (m : Int) ∧ Hid (Own wr w.heap.size b (cat (ps.take m)) ∧ OwnI wr w.heap.size en (endsOf ps m) ∧ w.grownBy wr none ∧ (∀ j, j < m → (ps.getD j []).length ≤ 65536) ∧ (m = 0 → b = .slice none 0 0 ∧ en = .slice none 0 0))) (fun _ _ i _ => 20 - (intOf i).toNat)
  case atStart => exact ⟨0, by omega, by omega, rfl, Own.nil _ _, OwnI.nil _ _, gb_refl _ _, fun j hj => by omega, fun _ => ⟨rfl, rfl⟩⟩
  case round =>
    obtain ⟨m, hm, hm20, rfl, hr⟩ := hrel
    have HC : Hid ((cat (ps.take m)).length ≤ 1310860) := by
      have h1 := cat_le (ps.take m) (mem_take hr.out.2.2.2.1)
      have h2 : (ps.take m).length ≤ m := by simp; omega
      show (cat (ps.take m)).length ≤ 1310860
      have : 65543 * (ps.take m).length ≤ 65543 * 20 := Nat.mul_le_mul_left _ (by omega)
      omega
    by_cases hgo : m < ps.length ∧ m < 20
    · obtain ⟨hmL, hm2⟩ := hgo
      have hmL2 : (m : Int) < (ps.length : Int) := by omega
      have hm22 : (m : Int) < 20 := by omega
      obtain ⟨a', c', hv', hml', hcells⟩ := HV.out.keep hr.out.2.2.1
      simp only [Value.slice.injEq, true_and] at hv'
      obtain ⟨rfl, rfl⟩ := hv'
      obtain ⟨b, o, u, rfl, hcu, hru⟩ := hcells m hmL
      clear hcells
      have hct := cat_take hmL
      have hes := endsOf_succ ps m
      generalize hpm : ps.getD m [] = pm at *
      generalize hC1 : cat (ps.take (m + 1)) = C1 at *
      generalize hC0 : cat (ps.take m) = C0 at *
      have HPM : Hid (ps.getD m [] = pm ∧ cat (ps.take (m + 1)) = C1 ∧ cat (ps.take m) = C0 ∧ C1 = C0 ++ frame pm ∧ endsOf ps (m + 1) = endsOf ps m ++ [(C1.length : Int)]) := ⟨hpm, hC1, hC0, hct, hes⟩
      clear hpm hC1 hC0 hct hes
      by_cases hbig : pm.length ≤ 65536
      · have HPF : Hid (Calls Tryd.prog 30 #[u7, u] wr fun e w' => ∃ v', e = .returned (.tuple #[v', .int .i64 0]) ∧ Own w' wr.heap.size v' (C0 ++ frame pm) ∧ wr.grownBy w' none) := putFrame_ok u7 u C0 pm wr hr.out.1.rd hru (HT.out.keep0 hr.out.2.2.1) hbig (by have := HC.out; omega)
        obtain ⟨lu, cu, hsu, -, -, -, -⟩ := hru
        have HBG : Hid (pm.length ≤ 65536) := hbig
        subst hsu
        clear hbig
        go_wp2_with fail
        refine HPF.out.mono ?_
        rintro e w1 ⟨v1, rfl, ho1, hg1⟩
        rw [← HPM.out.2.2.2.1] at ho1
        obtain ⟨a1, c1, hv1⟩ := ho1.shape
        have H1 : Hid (Own w1 w.heap.size v1 C1 ∧ OwnI w1 w.heap.size u8 (endsOf ps m) ∧ w.grownBy w1 none) := ⟨ho1.mono hr.out.2.2.1.size, hr.out.2.1.keep hg1, gb_none hr.out.2.2.1 hg1⟩
        have HLE : Hid ((endsOf ps m).length ≤ 16777216) := by show (endsOf ps m).length ≤ 16777216; rw [endsOf_len]; omega
        have HAll : Hid (∀ j, j < m + 1 → (ps.getD j []).length ≤ 65536) := fun j hj => by
          by_cases e : j = m
          · rw [e, HPM.out.1]; exact HBG.out
          · exact hr.out.2.2.2.1 j (by omega)
        clear ho1 hg1 hr HPF
        subst hv1
        go_wp2_with (at_builtin; refine wp_appI rfl _ _ rfl w.heap.size _ (endsOf ps m) (C1.length : Int) _ rfl rfl (litV _ _ _) (H1.out.2.1.keep (alloc_gb _ _)) HLE.out (by have := H1.out.2.2.size; simp; omega) ?_)
        intro v2 w2 ho2 hg2
        have hI := H1.out.2.1.keep (alloc_gb w1 (.cells #[Value.int .i64 (C1.length : Int)] 3))
        have H2 : Hid (Own w2 w.heap.size (.slice a1 C1.length c1) (cat (ps.take (m + 1))) ∧ OwnI w2 w.heap.size v2 (endsOf ps (m + 1)) ∧ w.grownBy w2 none ∧ (∀ j, j < m + 1 → (ps.getD j []).length ≤ 65536) ∧ (m + 1 = 0 → Value.slice a1 C1.length c1 = .slice none 0 0 ∧ v2 = .slice none 0 0)) :=
          ⟨by rw [HPM.out.2.1]; exact (H1.out.1.keep (alloc_gb _ _)).keptI hI hg2, by rw [HPM.out.2.2.2.2]; exact ho2, gb_new (gb_none H1.out.2.2 (alloc_gb _ _)) hg2 (fun k hk => (hI.lt k hk).1), HAll.out, fun h => by omega⟩
        clear ho2 hg2 hI H1
        go_wp2
        go_roundw
        case rel => exact ⟨m + 1, by omega, by omega, by go_num, H2⟩
        case measure => simp [intOf]; omega
      · have HPF : Hid (Calls Tryd.prog 30 #[u7, u] wr fun e w' => e = .returned (.tuple #[.slice none 0 0, .int .i64 4]) ∧ w' = wr) := putFrame_big u7 u C0 pm wr hr.out.1.rd hru (by omega)
        obtain ⟨lu, cu, hsu, -, -, -, -⟩ := hru
        subst hsu
        have hbg : (65536 : Int) < (pm.length : Int) := by omega
        have HG : Hid (w.grownBy wr none) := hr.out.2.2.1
        clear hr hbig
        go_wp2_with fail
        refine HPF.out.mono ?_
        rintro e w1 ⟨rfl, rfl⟩
        go_wp2_with fail
        refine (known_any _ (HT.out.keep0 HG.out)).mono ?_
        rintro e w2 ⟨rfl, hg2⟩
        have H2 : Hid (Below w.heap.size w w2) := gb_below (gb_none HG.out hg2)
        clear hg2
        go_wp2
        go_ret
        exact ⟨rfl, H2.out⟩
    · by_cases hmL : (m : Int) < (ps.length : Int)
      · have hm20n : ¬ (m : Int) < 20 := by omega
        clear hgo
        have hm0 : ¬ m = 0 := by omega
        have HG1 : Hid (w.grownBy wr none ∧ ∀ j, j < m → (ps.getD j []).length ≤ 65536) := ⟨hr.out.2.2.1, hr.out.2.2.2.1⟩
        have HAll : Hid (∀ j, j < m → (ps.getD j []).length ≤ 65536) := HG1.out.2
        obtain ⟨gB, cB, hu7, hgB0, hgB1, hcB, hcBm, -⟩ := hr.out.1.form (cat_ne (by omega) hm)
        obtain ⟨gE, cE, hu8, hcE⟩ := hr.out.2.1.form (by intro h; have := endsOf_len ps m; rw [h] at this; simp at this; omega)
        rw [endsOf_len] at hu8 hcE
        have HE : Hid (∀ j, j < m → wr.cell? ⟨gE, j, none⟩ = some (.int .i64 ((cat (ps.take (j + 1))).length : Int))) := fun j hj => by rw [hcE j hj, endsOf_get ps m j hj]
        subst hu7
        subst hu8
        have HB : Hid (Own wr w.heap.size (.slice (some ⟨gB, 0, none⟩) (cat (ps.take m)).length cB) (cat (ps.take m)) ∧ w.grownBy wr none) := ⟨hr.out.1, HG1.out.1⟩
        have hLs : (cat (ps.take m)).length ≤ 1310860 := HC.out
        clear hr hcE HC HG1 hgB0 hgB1
        obtain ⟨L, hL⟩ : ∃ L, L = (cat (ps.take m)).length := ⟨_, rfl⟩
        rw [← hL] at hcB hLs ⊢
        have HL : Hid ((cat (ps.take m)).length = L) := hL.symm
        clear hL
        unfold maxLen at hcBm
        obtain ⟨N, hN, HCn⟩ := count_N cut L wr hLs
        go_wp2_with fail
        refine HCn.out.mono ?_
        rintro e w1 ⟨rfl, hw1⟩
        rw [hw1]
        clear hw1 w1 HCn
        go_wp2
        go_loop [13] (fun i => ∃ j : Nat, j ≤ m ∧ i = .int .i64 (j : Int) ∧ Hid ((cat (ps.take j)).length ≤ N)) (fun i => m - (intOf i).toNat)
        case atStart => exact ⟨0, by omega, rfl, cat_zero⟩
        case round =>
          obtain ⟨j, hj, rfl, hjN⟩ := hrel
          by_cases hjm : j < m
          · have hc := HE.out j hjm
            obtain ⟨x, hx⟩ : ∃ x, x = (cat (ps.take (j + 1))).length := ⟨_, rfl⟩
            rw [← hx] at hc
            have HX : Hid ((cat (ps.take (j + 1))).length = x) := hx.symm
            clear hx
            by_cases hle : (x : Int) ≤ (N : Int)
            · go_wp2
              go_round
              case rel => exact ⟨j + 1, by omega, by go_num, by show (cat (ps.take (j + 1))).length ≤ N; rw [HX.out]; omega⟩
              case measure => simp [intOf]; omega
            · have hNx : j < m → N < (cat (ps.take (j + 1))).length := fun _ => by rw [HX.out]; omega
              clear HX
              have HFr := frs_call wr w.heap.size gB cB ps m j N HB.out.1 (HT.out.keep0 HB.out.2) HAll.out hm hj (by rw [HL.out]; exact hN) hjN.out hNx (by rw [HL.out]; omega)
              have HE2 : Hid (∀ w', wr.grownBy w' none → ∀ j, j < m → w'.cell? ⟨gE, j, none⟩ = some (.int .i64 ((cat (ps.take (j + 1))).length : Int))) := fun w' hg j hj => cell_keep (HE.out j hj) hg
              have HB2 : Hid (∀ w', wr.grownBy w' none → w.grownBy w' none ∧ Rd w' (.slice (some ⟨gB, 0, none⟩) L cB) (cat (ps.take m))) := fun w' hg => ⟨gb_none HB.out.2 hg, by have := (HB.out.1.keep hg).rd; rw [HL.out] at this; exact this⟩
              clear HE HB hNx hjN
              generalize (cat (ps.take j)).length = A at *
              go_wp2_with fail
              refine HFr.out.mono ?_
              rintro x w2 ⟨sv, vals, e2, d, rfl, ho2, hel2, hd1, hd2, hg2⟩
              obtain ⟨sa, sc, hs⟩ := ho2.shape
              have hvl : vals.length = j := by rw [hel2.1, List.length_take]; omega
              rw [hvl] at hs
              subst hs
              have H2 : Hid (OwnV w2 wr.heap.size (.slice sa j sc) vals ∧ Els w2 wr.heap.size vals (ps.take j) ∧ w.grownBy w2 none ∧ Rd w2 (.slice (some ⟨gB, 0, none⟩) L cB) (cat (ps.take m)) ∧ ∀ j, j < m → w2.cell? ⟨gE, j, none⟩ = some (.int .i64 ((cat (ps.take (j + 1))).length : Int))) := ⟨ho2, hel2, (HB2.out w2 hg2).1, (HB2.out w2 hg2).2, HE2.out w2 hg2⟩
              clear ho2 hel2 hg2 hvl HB2 HE2 HFr
              cases d with
              | true =>
                go_wp2
                go_loopw [17] (fun i wr' => ∃ k : Nat, k ≤ j ∧ i = .int .i64 (k : Int) ∧ Hid (∃ n, wr' = w2.drewN n)) (fun i _ => j - (intOf i).toNat)
                case atStart => exact ⟨0, by omega, rfl, 0, rfl⟩
                case round =>
                  clear hd1 hd2
                  obtain ⟨k, hk, rfl, hd⟩ := hrel
                  by_cases hkj : k < j
                  · obtain ⟨gM, cM, hsM, -, -, -, hcM⟩ := H2.out.1.form (by intro h; have := H2.out.2.1.1; rw [h] at this; simp at this; omega)
                    simp only [Value.slice.injEq] at hsM
                    obtain ⟨rfl, -, rfl⟩ := hsM
                    have HG4 : Hid (w.grownBy wr none) := by obtain ⟨n4, rfl⟩ := hd.out; exact gb_none H2.out.2.2.1 (gb_drewN _ _ _)
                    obtain ⟨a', c', hv', hml', hcells⟩ := HV.out.keep HG4.out
                    simp only [Value.slice.injEq, true_and] at hv'
                    obtain ⟨rfl, rfl⟩ := hv'
                    obtain ⟨b0, o0, x2, rfl, d2, r2⟩ := hcells k (by omega)
                    have hvl : vals.length = j := by rw [H2.out.2.1.1, List.length_take]; omega
                    have d1 : wr.cell? ⟨gM, k, none⟩ = some (vals.getD k undef) := by obtain ⟨n4, rfl⟩ := hd.out; exact hcM k (by omega)
                    have HR : Hid (Rd wr (vals.getD k undef) (ps.getD k []) ∧ Rd wr x2 (ps.getD k [])) := by
                      refine ⟨?_, r2⟩
                      obtain ⟨n4, rfl⟩ := hd.out
                      have h5 := (H2.out.2.1.2 k (by omega)).rd.keep (gb_drewN w2 n4 none)
                      rw [getD_take _ hkj] at h5
                      exact h5
                    have HD : Hid (∃ n, wr = w2.drewN n) := hd
                    clear r2 hcM hcells hd hvl
                    generalize vals.getD k undef = x1 at *
                    generalize ps.getD k [] = q at *
                    have HS : Hid (∀ n, Calls Tryd.prog 12 #[x1, x2] (wr.drewN n) fun e w' => e = .returned (.bool true) ∧ ∃ m, w' = (wr.drewN n).drewN m) := fun n =>
                      (same_quiet x1 x2 q q (wr.drewN n) (HR.out.1.keep (gb_drewN _ _ _)) (HR.out.2.keep (gb_drewN _ _ _))).mono fun e w' ⟨he, hm⟩ => ⟨by rw [he, decide_eq_true rfl], hm⟩
                    clear HR
                    go_wp2
                    go_quiet ((go_at_call 12; exact Calls.quiet_of (HS.out _)))
                    go_wp2
                    go_roundw
                    case rel => exact ⟨k + 1, by omega, by go_num, by obtain ⟨n4, rfl⟩ := HD.out; exact ⟨_, drewN_two _ _ _⟩⟩
                    case measure => simp [intOf]; omega
                  · have HG4 : Hid (w.grownBy wr none) := by obtain ⟨n4, rfl⟩ := hd.out; exact gb_none H2.out.2.2.1 (gb_drewN _ _ _)
                    have HB4 : Hid (Rd wr (.slice (some ⟨gB, 0, none⟩) L cB) (cat (ps.take m))) := by obtain ⟨n4, rfl⟩ := hd.out; exact H2.out.2.2.2.1.keep (gb_drewN _ _ _)
                    have HE4 : Hid (wr.cell? ⟨gE, 0, none⟩ = some (.int .i64 ((cat (ps.take (0 + 1))).length : Int))) := by obtain ⟨n4, rfl⟩ := hd.out; exact H2.out.2.2.2.2 0 (by omega)
                    clear hd H2
                    obtain ⟨a', c', hv', hml', hcells⟩ := HV.out.keep HG4.out
                    simp only [Value.slice.injEq, true_and] at hv'
                    obtain ⟨rfl, rfl⟩ := hv'
                    obtain ⟨b0, o0, u0, rfl, hc0, hr0⟩ := hcells 0 (by omega)
                    rw [Nat.add_zero] at hc0
                    have HR0 : Hid (Rd wr u0 (ps.getD 0 [])) := hr0
                    obtain ⟨a0, c0, hu0, -, -, -, -⟩ := hr0
                    clear hcells
                    have HP : Hid ((ps.getD 0 []).length ≤ 65536) := HAll.out 0 (by omega)
                    have HS : Hid (cat (ps.take m) = frame (ps.getD 0 []) ++ cat ((ps.take m).drop 1)) := cat_head (by omega) (by omega)
                    have HF1 : Hid (cat (ps.take (0 + 1)) = frame (ps.getD 0 [])) := cat_one (by omega)
                    have hc1 := HE4.out
                    rw [HF1.out, frame_len] at hc1
                    clear HE4 HF1
                    generalize hp0 : ps.getD 0 [] = p0 at *
                    clear hp0
                    subst hu0
                    by_cases hz : p0.length = 0
                    · have hz2 : ((p0.length : Int) == 0) = true := by simp [hz]
                      rw [hz] at hc0
                      clear hz2 hc1
                      go_wp2_with fail
                      refine (known_any _ (HT.out.keep0 HG4.out)).mono ?_
                      rintro e w3 ⟨rfl, hg3⟩
                      have H3 : Hid (Below w.heap.size w w3) := gb_below (gb_none HG4.out hg3)
                      clear hg3
                      go_wp2
                      go_ret
                      exact ⟨rfl, H3.out⟩
                    · have hpl : p0.length ≤ 65536 := HP.out
                      have hzi : ¬ (p0.length : Int) = 0 := by omega
                      have hmb : ((m : Int) == 0) = false := by simp; omega
                      obtain ⟨K, hK, HCn⟩ := count_K bit p0.length wr (by omega) hpl
                      obtain ⟨P, hP⟩ : ∃ P, P = p0.length := ⟨_, rfl⟩
                      have HPl : Hid (p0.length = P) := hP.symm
                      rw [← hP] at hc0 hc1 hzi hpl hK HCn hz
                      clear hP
                      obtain ⟨U, hU⟩ : ∃ U, U = (uv P).length := ⟨_, rfl⟩
                      have HU : Hid ((uv P).length = U ∧ U ≤ 3) := ⟨hU.symm, by rw [hU]; exact uv_le3 hpl⟩
                      rw [← hU] at hc1
                      have hU3 : U ≤ 3 := HU.out.2
                      clear hU
                      have hPb : ((P : Int) == 0) = false := by simp; omega
                      go_wp2_with fail
                      refine HCn.out.mono ?_
                      rintro e w1 ⟨rfl, hw1⟩
                      rw [hw1]
                      clear hw1 w1 HCn
                      go_wp2_with (at_builtin; refine wp_app rfl _ _ rfl w.heap.size _ _ [] (cat (ps.take m)) rfl rfl (Own.nil _ _) HB4.out ?c1 ?c2 ?_)
                      case c1 => have := HL.out; first | omega | (simp; omega)
                      case c2 => have := HG4.out.size; first | omega | (simp; omega)
                      intro v1 w1 ho1 hf1
                      have hg1 : wr.grownBy w1 none := by first | exact hf1.1 | exact (Fr.pre (gb_drew _ none) hf1).1
                      try rw [List.nil_append] at ho1
                      obtain ⟨gC, cC, hv1, hgC0, hgC1, hcC, hcCm, hcell⟩ := ho1.form (cat_ne (by omega) hm)
                      rw [HL.out] at hv1 hcC
                      subst hv1
                      have hc0' := cell_keep hc0 hg1
                      have hc1' := cell_keep hc1 hg1
                      clear hc0 hc1
                      have ht1 : (K : Int).tdiv 8 = ((K / 8 : Nat) : Int) := by rw [Int.tdiv_eq_ediv_of_nonneg (by omega)]; omega
                      have ht2 : (K : Int).tmod 8 = ((K % 8 : Nat) : Int) := by rw [Int.tmod_eq_emod_of_nonneg (by omega)]; omega
                      have hq : K / 8 < P := by omega
                      have hr8 : K % 8 < 8 := by omega
                      generalize K / 8 = q at *
                      generalize K % 8 = r at *
                      have hLe : U + 4 + P ≤ L := by have h7 := congrArg List.length HS.out; rw [List.length_append, frame_len, HPl.out, HU.out.1, HL.out] at h7; omega
                      have hci := hcell (U + 4 + q) (by rw [HL.out]; omega)
                      have hcf : w1.frozen? ⟨gC, U + 4 + q, none⟩ = false := by
                        have h1 := ho1
                        unfold Own at h1
                        rw [HL.out] at h1
                        exact World.ownsRow.frozenAt h1 _
                      generalize hy : (cat (ps.take m)).getD (U + 4 + q) 0 = y at *
                      have HY : Hid ((cat (ps.take m)).getD (U + 4 + q) 0 = y) := hy
                      have HO1 : Hid (Own w1 w.heap.size (.slice (some ⟨gC, 0, none⟩) (cat (ps.take m)).length cC) (cat (ps.take m)) ∧ wr.grownBy w1 none) := ⟨by rw [HL.out]; exact ho1, hg1⟩
                      clear hy ho1 hf1 hg1 hcell hgC0 hgC1
                      unfold maxLen at hcCm
                      have ht3 : ((U + (4 + P) : Nat) : Int) - (P : Int) = ((U + 4 : Nat) : Int) := by omega
                      have ht4 : ((U + 4 : Nat) : Int) + (q : Int) = ((U + 4 + q : Nat) : Int) := by omega
                      have hIL : U + 4 + q < L := by omega
                      generalize hI : U + 4 + q = I at *
                      have HI : Hid (U + 4 + q = I ∧ q < P) := ⟨hI, hq⟩
                      clear hI
                      generalize U + (4 + P) = E1 at *
                      generalize U + 4 = U4 at ht3 ht4
                      go_wp2_with fail
                      go_region
                      go_wp2_with fail
                      obtain ⟨y1, hy1, hy2⟩ := turn_byte y r hr8
                      rw [hy1]
                      have HQ : Hid (Rd (w1.setCell ⟨gC, I, none⟩ (.int .u8 (y1.toNat : Int))).drew (.slice (some ⟨gC, 0, none⟩) L cC) ((cat (ps.take m)).set I y1) ∧ w.grownBy (w1.setCell ⟨gC, I, none⟩ (.int .u8 (y1.toNat : Int))).drew none) := by
                        refine ⟨?_, gb_none (gb_new (gb_none HG4.out HO1.out.2) (gb_set w1 gC I _) (fun k hk => (HO1.out.1.lt k hk).1)) (gb_drew _ none)⟩
                        have h1 := (HO1.out.1.set I y1).rd.keep (gb_drew _ none)
                        rw [List.length_set, HL.out] at h1
                        exact h1
                      have HFt : Hid (frames ((cat (ps.take m)).set I y1) = ([], 0, 11)) := by
                        have h1 := HY.out
                        rw [HS.out, ← HI.out.1, ← HU.out.1, ← HPl.out] at h1
                        have h2 := turn_frames p0 (cat ((ps.take m).drop 1)) HP.out q (by rw [HPl.out]; exact HI.out.2) y1 (by rw [h1]; exact hy2)
                        rw [HPl.out, HU.out.1, HI.out.1, ← HS.out] at h2
                        exact h2
                      generalize (w1.setCell ⟨gC, I, none⟩ (.int .u8 (y1.toNat : Int))).drew = w3 at *
                      refine (frames_any _ _ w3 HQ.out.1 (HT.out.keep0 HQ.out.2) (by rw [List.length_set, HL.out]; omega)).mono ?_
                      rintro x9 w4 ⟨s9, vals9, hx9, ho9, hel9, -, hg9⟩
                      rw [HFt.out] at hx9 hel9
                      have hx8 : x9 = .returned (.tuple #[s9, .int .i64 0, .int .i64 11]) := hx9
                      obtain ⟨a9, c9, hs9⟩ := ho9.shape
                      have hl9 : vals9.length = 0 := by rw [hel9.1]; rfl
                      rw [hl9] at hs9
                      subst hs9
                      subst hx8
                      have H4 : Hid (w.grownBy w4 none) := gb_none HQ.out.2 hg9
                      clear hx9 ho9 hel9 hg9 hl9 HQ
                      go_wp2_with fail
                      refine (known_any _ (HT.out.keep0 H4.out)).mono ?_
                      rintro e w5 ⟨rfl, hg5⟩
                      have H5 : Hid (Below w.heap.size w w5) := gb_below (gb_none H4.out hg5)
                      clear hg5
                      go_wp2
                      go_ret
                      exact ⟨rfl, H5.out⟩
              | false =>
                go_wp2
                go_loopw [17] (fun i wr' => ∃ k : Nat, k ≤ j ∧ i = .int .i64 (k : Int) ∧ Hid (∃ n, wr' = w2.drewN n)) (fun i _ => j - (intOf i).toNat)
                case atStart => exact ⟨0, by omega, rfl, 0, rfl⟩
                case round =>
                  clear hd1 hd2
                  obtain ⟨k, hk, rfl, hd⟩ := hrel
                  by_cases hkj : k < j
                  · obtain ⟨gM, cM, hsM, -, -, -, hcM⟩ := H2.out.1.form (by intro h; have := H2.out.2.1.1; rw [h] at this; simp at this; omega)
                    simp only [Value.slice.injEq] at hsM
                    obtain ⟨rfl, -, rfl⟩ := hsM
                    have HG4 : Hid (w.grownBy wr none) := by obtain ⟨n4, rfl⟩ := hd.out; exact gb_none H2.out.2.2.1 (gb_drewN _ _ _)
                    obtain ⟨a', c', hv', hml', hcells⟩ := HV.out.keep HG4.out
                    simp only [Value.slice.injEq, true_and] at hv'
                    obtain ⟨rfl, rfl⟩ := hv'
                    obtain ⟨b0, o0, x2, rfl, d2, r2⟩ := hcells k (by omega)
                    have hvl : vals.length = j := by rw [H2.out.2.1.1, List.length_take]; omega
                    have d1 : wr.cell? ⟨gM, k, none⟩ = some (vals.getD k undef) := by obtain ⟨n4, rfl⟩ := hd.out; exact hcM k (by omega)
                    have HR : Hid (Rd wr (vals.getD k undef) (ps.getD k []) ∧ Rd wr x2 (ps.getD k [])) := by
                      refine ⟨?_, r2⟩
                      obtain ⟨n4, rfl⟩ := hd.out
                      have h5 := (H2.out.2.1.2 k (by omega)).rd.keep (gb_drewN w2 n4 none)
                      rw [getD_take _ hkj] at h5
                      exact h5
                    have HD : Hid (∃ n, wr = w2.drewN n) := hd
                    clear r2 hcM hcells hd hvl
                    generalize vals.getD k undef = x1 at *
                    generalize ps.getD k [] = q at *
                    have HS : Hid (∀ n, Calls Tryd.prog 12 #[x1, x2] (wr.drewN n) fun e w' => e = .returned (.bool true) ∧ ∃ m, w' = (wr.drewN n).drewN m) := fun n =>
                      (same_quiet x1 x2 q q (wr.drewN n) (HR.out.1.keep (gb_drewN _ _ _)) (HR.out.2.keep (gb_drewN _ _ _))).mono fun e w' ⟨he, hm⟩ => ⟨by rw [he, decide_eq_true rfl], hm⟩
                    clear HR
                    go_wp2
                    go_quiet ((go_at_call 12; exact Calls.quiet_of (HS.out _)))
                    go_wp2
                    go_roundw
                    case rel => exact ⟨k + 1, by omega, by go_num, by obtain ⟨n4, rfl⟩ := HD.out; exact ⟨_, drewN_two _ _ _⟩⟩
                    case measure => simp [intOf]; omega
                  · have HG4 : Hid (w.grownBy wr none) := by obtain ⟨n4, rfl⟩ := hd.out; exact gb_none H2.out.2.2.1 (gb_drewN _ _ _)
                    have HB4 : Hid (Rd wr (.slice (some ⟨gB, 0, none⟩) L cB) (cat (ps.take m))) := by obtain ⟨n4, rfl⟩ := hd.out; exact H2.out.2.2.2.1.keep (gb_drewN _ _ _)
                    have HE4 : Hid (wr.cell? ⟨gE, 0, none⟩ = some (.int .i64 ((cat (ps.take (0 + 1))).length : Int))) := by obtain ⟨n4, rfl⟩ := hd.out; exact H2.out.2.2.2.2 0 (by omega)
                    clear hd H2
                    obtain ⟨a', c', hv', hml', hcells⟩ := HV.out.keep HG4.out
                    simp only [Value.slice.injEq, true_and] at hv'
                    obtain ⟨rfl, rfl⟩ := hv'
                    obtain ⟨b0, o0, u0, rfl, hc0, hr0⟩ := hcells 0 (by omega)
                    rw [Nat.add_zero] at hc0
                    have HR0 : Hid (Rd wr u0 (ps.getD 0 [])) := hr0
                    obtain ⟨a0, c0, hu0, -, -, -, -⟩ := hr0
                    clear hcells
                    have HP : Hid ((ps.getD 0 []).length ≤ 65536) := HAll.out 0 (by omega)
                    have HS : Hid (cat (ps.take m) = frame (ps.getD 0 []) ++ cat ((ps.take m).drop 1)) := cat_head (by omega) (by omega)
                    have HF1 : Hid (cat (ps.take (0 + 1)) = frame (ps.getD 0 [])) := cat_one (by omega)
                    have hc1 := HE4.out
                    rw [HF1.out, frame_len] at hc1
                    clear HE4 HF1
                    generalize hp0 : ps.getD 0 [] = p0 at *
                    clear hp0
                    subst hu0
                    by_cases hz : p0.length = 0
                    · have hz2 : ((p0.length : Int) == 0) = true := by simp [hz]
                      rw [hz] at hc0
                      clear hz2 hc1
                      go_wp2_with fail
                      refine (known_any _ (HT.out.keep0 HG4.out)).mono ?_
                      rintro e w3 ⟨rfl, hg3⟩
                      have H3 : Hid (Below w.heap.size w w3) := gb_below (gb_none HG4.out hg3)
                      clear hg3
                      go_wp2
                      go_ret
                      exact ⟨rfl, H3.out⟩
                    · have hpl : p0.length ≤ 65536 := HP.out
                      have hzi : ¬ (p0.length : Int) = 0 := by omega
                      have hmb : ((m : Int) == 0) = false := by simp; omega
                      obtain ⟨K, hK, HCn⟩ := count_K bit p0.length wr (by omega) hpl
                      obtain ⟨P, hP⟩ : ∃ P, P = p0.length := ⟨_, rfl⟩
                      have HPl : Hid (p0.length = P) := hP.symm
                      rw [← hP] at hc0 hc1 hzi hpl hK HCn hz
                      clear hP
                      obtain ⟨U, hU⟩ : ∃ U, U = (uv P).length := ⟨_, rfl⟩
                      have HU : Hid ((uv P).length = U ∧ U ≤ 3) := ⟨hU.symm, by rw [hU]; exact uv_le3 hpl⟩
                      rw [← hU] at hc1
                      have hU3 : U ≤ 3 := HU.out.2
                      clear hU
                      have hPb : ((P : Int) == 0) = false := by simp; omega
                      go_wp2_with fail
                      refine HCn.out.mono ?_
                      rintro e w1 ⟨rfl, hw1⟩
                      rw [hw1]
                      clear hw1 w1 HCn
                      go_wp2_with (at_builtin; refine wp_app rfl _ _ rfl w.heap.size _ _ [] (cat (ps.take m)) rfl rfl (Own.nil _ _) HB4.out ?c1 ?c2 ?_)
                      case c1 => have := HL.out; first | omega | (simp; omega)
                      case c2 => have := HG4.out.size; first | omega | (simp; omega)
                      intro v1 w1 ho1 hf1
                      have hg1 : wr.grownBy w1 none := by first | exact hf1.1 | exact (Fr.pre (gb_drew _ none) hf1).1
                      try rw [List.nil_append] at ho1
                      obtain ⟨gC, cC, hv1, hgC0, hgC1, hcC, hcCm, hcell⟩ := ho1.form (cat_ne (by omega) hm)
                      rw [HL.out] at hv1 hcC
                      subst hv1
                      have hc0' := cell_keep hc0 hg1
                      have hc1' := cell_keep hc1 hg1
                      clear hc0 hc1
                      have ht1 : (K : Int).tdiv 8 = ((K / 8 : Nat) : Int) := by rw [Int.tdiv_eq_ediv_of_nonneg (by omega)]; omega
                      have ht2 : (K : Int).tmod 8 = ((K % 8 : Nat) : Int) := by rw [Int.tmod_eq_emod_of_nonneg (by omega)]; omega
                      have hq : K / 8 < P := by omega
                      have hr8 : K % 8 < 8 := by omega
                      generalize K / 8 = q at *
                      generalize K % 8 = r at *
                      have hLe : U + 4 + P ≤ L := by have h7 := congrArg List.length HS.out; rw [List.length_append, frame_len, HPl.out, HU.out.1, HL.out] at h7; omega
                      have hci := hcell (U + 4 + q) (by rw [HL.out]; omega)
                      have hcf : w1.frozen? ⟨gC, U + 4 + q, none⟩ = false := by
                        have h1 := ho1
                        unfold Own at h1
                        rw [HL.out] at h1
                        exact World.ownsRow.frozenAt h1 _
                      generalize hy : (cat (ps.take m)).getD (U + 4 + q) 0 = y at *
                      have HY : Hid ((cat (ps.take m)).getD (U + 4 + q) 0 = y) := hy
                      have HO1 : Hid (Own w1 w.heap.size (.slice (some ⟨gC, 0, none⟩) (cat (ps.take m)).length cC) (cat (ps.take m)) ∧ wr.grownBy w1 none) := ⟨by rw [HL.out]; exact ho1, hg1⟩
                      clear hy ho1 hf1 hg1 hcell hgC0 hgC1
                      unfold maxLen at hcCm
                      have ht3 : ((U + (4 + P) : Nat) : Int) - (P : Int) = ((U + 4 : Nat) : Int) := by omega
                      have ht4 : ((U + 4 : Nat) : Int) + (q : Int) = ((U + 4 + q : Nat) : Int) := by omega
                      have hIL : U + 4 + q < L := by omega
                      generalize hI : U + 4 + q = I at *
                      have HI : Hid (U + 4 + q = I ∧ q < P) := ⟨hI, hq⟩
                      clear hI
                      generalize U + (4 + P) = E1 at *
                      generalize U + 4 = U4 at ht3 ht4
                      go_wp2_with fail
                      go_region
                      go_wp2_with fail
                      obtain ⟨y1, hy1, hy2⟩ := turn_byte y r hr8
                      rw [hy1]
                      have HQ : Hid (Rd (w1.setCell ⟨gC, I, none⟩ (.int .u8 (y1.toNat : Int))).drew (.slice (some ⟨gC, 0, none⟩) L cC) ((cat (ps.take m)).set I y1) ∧ w.grownBy (w1.setCell ⟨gC, I, none⟩ (.int .u8 (y1.toNat : Int))).drew none) := by
                        refine ⟨?_, gb_none (gb_new (gb_none HG4.out HO1.out.2) (gb_set w1 gC I _) (fun k hk => (HO1.out.1.lt k hk).1)) (gb_drew _ none)⟩
                        have h1 := (HO1.out.1.set I y1).rd.keep (gb_drew _ none)
                        rw [List.length_set, HL.out] at h1
                        exact h1
                      have HFt : Hid (frames ((cat (ps.take m)).set I y1) = ([], 0, 11)) := by
                        have h1 := HY.out
                        rw [HS.out, ← HI.out.1, ← HU.out.1, ← HPl.out] at h1
                        have h2 := turn_frames p0 (cat ((ps.take m).drop 1)) HP.out q (by rw [HPl.out]; exact HI.out.2) y1 (by rw [h1]; exact hy2)
                        rw [HPl.out, HU.out.1, HI.out.1, ← HS.out] at h2
                        exact h2
                      generalize (w1.setCell ⟨gC, I, none⟩ (.int .u8 (y1.toNat : Int))).drew = w3 at *
                      refine (frames_any _ _ w3 HQ.out.1 (HT.out.keep0 HQ.out.2) (by rw [List.length_set, HL.out]; omega)).mono ?_
                      rintro x9 w4 ⟨s9, vals9, hx9, ho9, hel9, -, hg9⟩
                      rw [HFt.out] at hx9 hel9
                      have hx8 : x9 = .returned (.tuple #[s9, .int .i64 0, .int .i64 11]) := hx9
                      obtain ⟨a9, c9, hs9⟩ := ho9.shape
                      have hl9 : vals9.length = 0 := by rw [hel9.1]; rfl
                      rw [hl9] at hs9
                      subst hs9
                      subst hx8
                      have H4 : Hid (w.grownBy w4 none) := gb_none HQ.out.2 hg9
                      clear hx9 ho9 hel9 hg9 hl9 HQ
                      go_wp2_with fail
                      refine (known_any _ (HT.out.keep0 H4.out)).mono ?_
                      rintro e w5 ⟨rfl, hg5⟩
                      have H5 : Hid (Below w.heap.size w w5) := gb_below (gb_none H4.out hg5)
                      clear hg5
                      go_wp2
                      go_ret
                      exact ⟨rfl, H5.out⟩
          · have hNx : j < m → N < (cat (ps.take (j + 1))).length := fun h => absurd h hjm
            have HFr := frs_call wr w.heap.size gB cB ps m j N HB.out.1 (HT.out.keep0 HB.out.2) HAll.out hm hj (by rw [HL.out]; exact hN) hjN.out hNx (by rw [HL.out]; omega)
            have HE2 : Hid (∀ w', wr.grownBy w' none → ∀ j, j < m → w'.cell? ⟨gE, j, none⟩ = some (.int .i64 ((cat (ps.take (j + 1))).length : Int))) := fun w' hg j hj => cell_keep (HE.out j hj) hg
            have HB2 : Hid (∀ w', wr.grownBy w' none → w.grownBy w' none ∧ Rd w' (.slice (some ⟨gB, 0, none⟩) L cB) (cat (ps.take m))) := fun w' hg => ⟨gb_none HB.out.2 hg, by have := (HB.out.1.keep hg).rd; rw [HL.out] at this; exact this⟩
            clear HE HB hNx hjN
            generalize (cat (ps.take j)).length = A at *
            go_wp2_with fail
            refine HFr.out.mono ?_
            rintro x w2 ⟨sv, vals, e2, d, rfl, ho2, hel2, hd1, hd2, hg2⟩
            obtain ⟨sa, sc, hs⟩ := ho2.shape
            have hvl : vals.length = j := by rw [hel2.1, List.length_take]; omega
            rw [hvl] at hs
            subst hs
            have H2 : Hid (OwnV w2 wr.heap.size (.slice sa j sc) vals ∧ Els w2 wr.heap.size vals (ps.take j) ∧ w.grownBy w2 none ∧ Rd w2 (.slice (some ⟨gB, 0, none⟩) L cB) (cat (ps.take m)) ∧ ∀ j, j < m → w2.cell? ⟨gE, j, none⟩ = some (.int .i64 ((cat (ps.take (j + 1))).length : Int))) := ⟨ho2, hel2, (HB2.out w2 hg2).1, (HB2.out w2 hg2).2, HE2.out w2 hg2⟩
            clear ho2 hel2 hg2 hvl HB2 HE2 HFr
            cases d with
            | true =>
              go_wp2
              go_loopw [17] (fun i wr' => ∃ k : Nat, k ≤ j ∧ i = .int .i64 (k : Int) ∧ Hid (∃ n, wr' = w2.drewN n)) (fun i _ => j - (intOf i).toNat)
              case atStart => exact ⟨0, by omega, rfl, 0, rfl⟩
              case round =>
                clear hd1 hd2
                obtain ⟨k, hk, rfl, hd⟩ := hrel
                by_cases hkj : k < j
                · obtain ⟨gM, cM, hsM, -, -, -, hcM⟩ := H2.out.1.form (by intro h; have := H2.out.2.1.1; rw [h] at this; simp at this; omega)
                  simp only [Value.slice.injEq] at hsM
                  obtain ⟨rfl, -, rfl⟩ := hsM
                  have HG4 : Hid (w.grownBy wr none) := by obtain ⟨n4, rfl⟩ := hd.out; exact gb_none H2.out.2.2.1 (gb_drewN _ _ _)
                  obtain ⟨a', c', hv', hml', hcells⟩ := HV.out.keep HG4.out
                  simp only [Value.slice.injEq, true_and] at hv'
                  obtain ⟨rfl, rfl⟩ := hv'
                  obtain ⟨b0, o0, x2, rfl, d2, r2⟩ := hcells k (by omega)
                  have hvl : vals.length = j := by rw [H2.out.2.1.1, List.length_take]; omega
                  have d1 : wr.cell? ⟨gM, k, none⟩ = some (vals.getD k undef) := by obtain ⟨n4, rfl⟩ := hd.out; exact hcM k (by omega)
                  have HR : Hid (Rd wr (vals.getD k undef) (ps.getD k []) ∧ Rd wr x2 (ps.getD k [])) := by
                    refine ⟨?_, r2⟩
                    obtain ⟨n4, rfl⟩ := hd.out
                    have h5 := (H2.out.2.1.2 k (by omega)).rd.keep (gb_drewN w2 n4 none)
                    rw [getD_take _ hkj] at h5
                    exact h5
                  have HD : Hid (∃ n, wr = w2.drewN n) := hd
                  clear r2 hcM hcells hd hvl
                  generalize vals.getD k undef = x1 at *
                  generalize ps.getD k [] = q at *
                  have HS : Hid (∀ n, Calls Tryd.prog 12 #[x1, x2] (wr.drewN n) fun e w' => e = .returned (.bool true) ∧ ∃ m, w' = (wr.drewN n).drewN m) := fun n =>
                    (same_quiet x1 x2 q q (wr.drewN n) (HR.out.1.keep (gb_drewN _ _ _)) (HR.out.2.keep (gb_drewN _ _ _))).mono fun e w' ⟨he, hm⟩ => ⟨by rw [he, decide_eq_true rfl], hm⟩
                  clear HR
                  go_wp2
                  go_quiet ((go_at_call 12; exact Calls.quiet_of (HS.out _)))
                  go_wp2
                  go_roundw
                  case rel => exact ⟨k + 1, by omega, by go_num, by obtain ⟨n4, rfl⟩ := HD.out; exact ⟨_, drewN_two _ _ _⟩⟩
                  case measure => simp [intOf]; omega
                · have HG4 : Hid (w.grownBy wr none) := by obtain ⟨n4, rfl⟩ := hd.out; exact gb_none H2.out.2.2.1 (gb_drewN _ _ _)
                  have HB4 : Hid (Rd wr (.slice (some ⟨gB, 0, none⟩) L cB) (cat (ps.take m))) := by obtain ⟨n4, rfl⟩ := hd.out; exact H2.out.2.2.2.1.keep (gb_drewN _ _ _)
                  have HE4 : Hid (wr.cell? ⟨gE, 0, none⟩ = some (.int .i64 ((cat (ps.take (0 + 1))).length : Int))) := by obtain ⟨n4, rfl⟩ := hd.out; exact H2.out.2.2.2.2 0 (by omega)
                  clear hd H2
                  obtain ⟨a', c', hv', hml', hcells⟩ := HV.out.keep HG4.out
                  simp only [Value.slice.injEq, true_and] at hv'
                  obtain ⟨rfl, rfl⟩ := hv'
                  obtain ⟨b0, o0, u0, rfl, hc0, hr0⟩ := hcells 0 (by omega)
                  rw [Nat.add_zero] at hc0
                  have HR0 : Hid (Rd wr u0 (ps.getD 0 [])) := hr0
                  obtain ⟨a0, c0, hu0, -, -, -, -⟩ := hr0
                  clear hcells
                  have HP : Hid ((ps.getD 0 []).length ≤ 65536) := HAll.out 0 (by omega)
                  have HS : Hid (cat (ps.take m) = frame (ps.getD 0 []) ++ cat ((ps.take m).drop 1)) := cat_head (by omega) (by omega)
                  have HF1 : Hid (cat (ps.take (0 + 1)) = frame (ps.getD 0 [])) := cat_one (by omega)
                  have hc1 := HE4.out
                  rw [HF1.out, frame_len] at hc1
                  clear HE4 HF1
                  generalize hp0 : ps.getD 0 [] = p0 at *
                  clear hp0
                  subst hu0
                  by_cases hz : p0.length = 0
                  · have hz2 : ((p0.length : Int) == 0) = true := by simp [hz]
                    rw [hz] at hc0
                    clear hz2 hc1
                    go_wp2_with fail
                    refine (known_any _ (HT.out.keep0 HG4.out)).mono ?_
                    rintro e w3 ⟨rfl, hg3⟩
                    have H3 : Hid (Below w.heap.size w w3) := gb_below (gb_none HG4.out hg3)
                    clear hg3
                    go_wp2
                    go_ret
                    exact ⟨rfl, H3.out⟩
                  · have hpl : p0.length ≤ 65536 := HP.out
                    have hzi : ¬ (p0.length : Int) = 0 := by omega
                    have hmb : ((m : Int) == 0) = false := by simp; omega
                    obtain ⟨K, hK, HCn⟩ := count_K bit p0.length wr (by omega) hpl
                    obtain ⟨P, hP⟩ : ∃ P, P = p0.length := ⟨_, rfl⟩
                    have HPl : Hid (p0.length = P) := hP.symm
                    rw [← hP] at hc0 hc1 hzi hpl hK HCn hz
                    clear hP
                    obtain ⟨U, hU⟩ : ∃ U, U = (uv P).length := ⟨_, rfl⟩
                    have HU : Hid ((uv P).length = U ∧ U ≤ 3) := ⟨hU.symm, by rw [hU]; exact uv_le3 hpl⟩
                    rw [← hU] at hc1
                    have hU3 : U ≤ 3 := HU.out.2
                    clear hU
                    have hPb : ((P : Int) == 0) = false := by simp; omega
                    go_wp2_with fail
                    refine HCn.out.mono ?_
                    rintro e w1 ⟨rfl, hw1⟩
                    rw [hw1]
                    clear hw1 w1 HCn
                    go_wp2_with (at_builtin; refine wp_app rfl _ _ rfl w.heap.size _ _ [] (cat (ps.take m)) rfl rfl (Own.nil _ _) HB4.out ?c1 ?c2 ?_)
                    case c1 => have := HL.out; first | omega | (simp; omega)
                    case c2 => have := HG4.out.size; first | omega | (simp; omega)
                    intro v1 w1 ho1 hf1
                    have hg1 : wr.grownBy w1 none := by first | exact hf1.1 | exact (Fr.pre (gb_drew _ none) hf1).1
                    try rw [List.nil_append] at ho1
                    obtain ⟨gC, cC, hv1, hgC0, hgC1, hcC, hcCm, hcell⟩ := ho1.form (cat_ne (by omega) hm)
                    rw [HL.out] at hv1 hcC
                    subst hv1
                    have hc0' := cell_keep hc0 hg1
                    have hc1' := cell_keep hc1 hg1
                    clear hc0 hc1
                    have ht1 : (K : Int).tdiv 8 = ((K / 8 : Nat) : Int) := by rw [Int.tdiv_eq_ediv_of_nonneg (by omega)]; omega
                    have ht2 : (K : Int).tmod 8 = ((K % 8 : Nat) : Int) := by rw [Int.tmod_eq_emod_of_nonneg (by omega)]; omega
                    have hq : K / 8 < P := by omega
                    have hr8 : K % 8 < 8 := by omega
                    generalize K / 8 = q at *
                    generalize K % 8 = r at *
                    have hLe : U + 4 + P ≤ L := by have h7 := congrArg List.length HS.out; rw [List.length_append, frame_len, HPl.out, HU.out.1, HL.out] at h7; omega
                    have hci := hcell (U + 4 + q) (by rw [HL.out]; omega)
                    have hcf : w1.frozen? ⟨gC, U + 4 + q, none⟩ = false := by
                      have h1 := ho1
                      unfold Own at h1
                      rw [HL.out] at h1
                      exact World.ownsRow.frozenAt h1 _
                    generalize hy : (cat (ps.take m)).getD (U + 4 + q) 0 = y at *
                    have HY : Hid ((cat (ps.take m)).getD (U + 4 + q) 0 = y) := hy
                    have HO1 : Hid (Own w1 w.heap.size (.slice (some ⟨gC, 0, none⟩) (cat (ps.take m)).length cC) (cat (ps.take m)) ∧ wr.grownBy w1 none) := ⟨by rw [HL.out]; exact ho1, hg1⟩
                    clear hy ho1 hf1 hg1 hcell hgC0 hgC1
                    unfold maxLen at hcCm
                    have ht3 : ((U + (4 + P) : Nat) : Int) - (P : Int) = ((U + 4 : Nat) : Int) := by omega
                    have ht4 : ((U + 4 : Nat) : Int) + (q : Int) = ((U + 4 + q : Nat) : Int) := by omega
                    have hIL : U + 4 + q < L := by omega
                    generalize hI : U + 4 + q = I at *
                    have HI : Hid (U + 4 + q = I ∧ q < P) := ⟨hI, hq⟩
                    clear hI
                    generalize U + (4 + P) = E1 at *
                    generalize U + 4 = U4 at ht3 ht4
                    go_wp2_with fail
                    go_region
                    go_wp2_with fail
                    obtain ⟨y1, hy1, hy2⟩ := turn_byte y r hr8
                    rw [hy1]
                    have HQ : Hid (Rd (w1.setCell ⟨gC, I, none⟩ (.int .u8 (y1.toNat : Int))).drew (.slice (some ⟨gC, 0, none⟩) L cC) ((cat (ps.take m)).set I y1) ∧ w.grownBy (w1.setCell ⟨gC, I, none⟩ (.int .u8 (y1.toNat : Int))).drew none) := by
                      refine ⟨?_, gb_none (gb_new (gb_none HG4.out HO1.out.2) (gb_set w1 gC I _) (fun k hk => (HO1.out.1.lt k hk).1)) (gb_drew _ none)⟩
                      have h1 := (HO1.out.1.set I y1).rd.keep (gb_drew _ none)
                      rw [List.length_set, HL.out] at h1
                      exact h1
                    have HFt : Hid (frames ((cat (ps.take m)).set I y1) = ([], 0, 11)) := by
                      have h1 := HY.out
                      rw [HS.out, ← HI.out.1, ← HU.out.1, ← HPl.out] at h1
                      have h2 := turn_frames p0 (cat ((ps.take m).drop 1)) HP.out q (by rw [HPl.out]; exact HI.out.2) y1 (by rw [h1]; exact hy2)
                      rw [HPl.out, HU.out.1, HI.out.1, ← HS.out] at h2
                      exact h2
                    generalize (w1.setCell ⟨gC, I, none⟩ (.int .u8 (y1.toNat : Int))).drew = w3 at *
                    refine (frames_any _ _ w3 HQ.out.1 (HT.out.keep0 HQ.out.2) (by rw [List.length_set, HL.out]; omega)).mono ?_
                    rintro x9 w4 ⟨s9, vals9, hx9, ho9, hel9, -, hg9⟩
                    rw [HFt.out] at hx9 hel9
                    have hx8 : x9 = .returned (.tuple #[s9, .int .i64 0, .int .i64 11]) := hx9
                    obtain ⟨a9, c9, hs9⟩ := ho9.shape
                    have hl9 : vals9.length = 0 := by rw [hel9.1]; rfl
                    rw [hl9] at hs9
                    subst hs9
                    subst hx8
                    have H4 : Hid (w.grownBy w4 none) := gb_none HQ.out.2 hg9
                    clear hx9 ho9 hel9 hg9 hl9 HQ
                    go_wp2_with fail
                    refine (known_any _ (HT.out.keep0 H4.out)).mono ?_
                    rintro e w5 ⟨rfl, hg5⟩
                    have H5 : Hid (Below w.heap.size w w5) := gb_below (gb_none H4.out hg5)
                    clear hg5
                    go_wp2
                    go_ret
                    exact ⟨rfl, H5.out⟩
            | false =>
              go_wp2
              go_loopw [17] (fun i wr' => ∃ k : Nat, k ≤ j ∧ i = .int .i64 (k : Int) ∧ Hid (∃ n, wr' = w2.drewN n)) (fun i _ => j - (intOf i).toNat)
              case atStart => exact ⟨0, by omega, rfl, 0, rfl⟩
              case round =>
                clear hd1 hd2
                obtain ⟨k, hk, rfl, hd⟩ := hrel
                by_cases hkj : k < j
                · obtain ⟨gM, cM, hsM, -, -, -, hcM⟩ := H2.out.1.form (by intro h; have := H2.out.2.1.1; rw [h] at this; simp at this; omega)
                  simp only [Value.slice.injEq] at hsM
                  obtain ⟨rfl, -, rfl⟩ := hsM
                  have HG4 : Hid (w.grownBy wr none) := by obtain ⟨n4, rfl⟩ := hd.out; exact gb_none H2.out.2.2.1 (gb_drewN _ _ _)
                  obtain ⟨a', c', hv', hml', hcells⟩ := HV.out.keep HG4.out
                  simp only [Value.slice.injEq, true_and] at hv'
                  obtain ⟨rfl, rfl⟩ := hv'
                  obtain ⟨b0, o0, x2, rfl, d2, r2⟩ := hcells k (by omega)
                  have hvl : vals.length = j := by rw [H2.out.2.1.1, List.length_take]; omega
                  have d1 : wr.cell? ⟨gM, k, none⟩ = some (vals.getD k undef) := by obtain ⟨n4, rfl⟩ := hd.out; exact hcM k (by omega)
                  have HR : Hid (Rd wr (vals.getD k undef) (ps.getD k []) ∧ Rd wr x2 (ps.getD k [])) := by
                    refine ⟨?_, r2⟩
                    obtain ⟨n4, rfl⟩ := hd.out
                    have h5 := (H2.out.2.1.2 k (by omega)).rd.keep (gb_drewN w2 n4 none)
                    rw [getD_take _ hkj] at h5
                    exact h5
                  have HD : Hid (∃ n, wr = w2.drewN n) := hd
                  clear r2 hcM hcells hd hvl
                  generalize vals.getD k undef = x1 at *
                  generalize ps.getD k [] = q at *
                  have HS : Hid (∀ n, Calls Tryd.prog 12 #[x1, x2] (wr.drewN n) fun e w' => e = .returned (.bool true) ∧ ∃ m, w' = (wr.drewN n).drewN m) := fun n =>
                    (same_quiet x1 x2 q q (wr.drewN n) (HR.out.1.keep (gb_drewN _ _ _)) (HR.out.2.keep (gb_drewN _ _ _))).mono fun e w' ⟨he, hm⟩ => ⟨by rw [he, decide_eq_true rfl], hm⟩
                  clear HR
                  go_wp2
                  go_quiet ((go_at_call 12; exact Calls.quiet_of (HS.out _)))
                  go_wp2
                  go_roundw
                  case rel => exact ⟨k + 1, by omega, by go_num, by obtain ⟨n4, rfl⟩ := HD.out; exact ⟨_, drewN_two _ _ _⟩⟩
                  case measure => simp [intOf]; omega
                · have HG4 : Hid (w.grownBy wr none) := by obtain ⟨n4, rfl⟩ := hd.out; exact gb_none H2.out.2.2.1 (gb_drewN _ _ _)
                  have HB4 : Hid (Rd wr (.slice (some ⟨gB, 0, none⟩) L cB) (cat (ps.take m))) := by obtain ⟨n4, rfl⟩ := hd.out; exact H2.out.2.2.2.1.keep (gb_drewN _ _ _)
                  have HE4 : Hid (wr.cell? ⟨gE, 0, none⟩ = some (.int .i64 ((cat (ps.take (0 + 1))).length : Int))) := by obtain ⟨n4, rfl⟩ := hd.out; exact H2.out.2.2.2.2 0 (by omega)
                  clear hd H2
                  obtain ⟨a', c', hv', hml', hcells⟩ := HV.out.keep HG4.out
                  simp only [Value.slice.injEq, true_and] at hv'
                  obtain ⟨rfl, rfl⟩ := hv'
                  obtain ⟨b0, o0, u0, rfl, hc0, hr0⟩ := hcells 0 (by omega)
                  rw [Nat.add_zero] at hc0
                  have HR0 : Hid (Rd wr u0 (ps.getD 0 [])) := hr0
                  obtain ⟨a0, c0, hu0, -, -, -, -⟩ := hr0
                  clear hcells
                  have HP : Hid ((ps.getD 0 []).length ≤ 65536) := HAll.out 0 (by omega)
                  have HS : Hid (cat (ps.take m) = frame (ps.getD 0 []) ++ cat ((ps.take m).drop 1)) := cat_head (by omega) (by omega)
                  have HF1 : Hid (cat (ps.take (0 + 1)) = frame (ps.getD 0 [])) := cat_one (by omega)
                  have hc1 := HE4.out
                  rw [HF1.out, frame_len] at hc1
                  clear HE4 HF1
                  generalize hp0 : ps.getD 0 [] = p0 at *
                  clear hp0
                  subst hu0
                  by_cases hz : p0.length = 0
                  · have hz2 : ((p0.length : Int) == 0) = true := by simp [hz]
                    rw [hz] at hc0
                    clear hz2 hc1
                    go_wp2_with fail
                    refine (known_any _ (HT.out.keep0 HG4.out)).mono ?_
                    rintro e w3 ⟨rfl, hg3⟩
                    have H3 : Hid (Below w.heap.size w w3) := gb_below (gb_none HG4.out hg3)
                    clear hg3
                    go_wp2
                    go_ret
                    exact ⟨rfl, H3.out⟩
                  · have hpl : p0.length ≤ 65536 := HP.out
                    have hzi : ¬ (p0.length : Int) = 0 := by omega
                    have hmb : ((m : Int) == 0) = false := by simp; omega
                    obtain ⟨K, hK, HCn⟩ := count_K bit p0.length wr (by omega) hpl
                    obtain ⟨P, hP⟩ : ∃ P, P = p0.length := ⟨_, rfl⟩
                    have HPl : Hid (p0.length = P) := hP.symm
                    rw [← hP] at hc0 hc1 hzi hpl hK HCn hz
                    clear hP
                    obtain ⟨U, hU⟩ : ∃ U, U = (uv P).length := ⟨_, rfl⟩
                    have HU : Hid ((uv P).length = U ∧ U ≤ 3) := ⟨hU.symm, by rw [hU]; exact uv_le3 hpl⟩
                    rw [← hU] at hc1
                    have hU3 : U ≤ 3 := HU.out.2
                    clear hU
                    have hPb : ((P : Int) == 0) = false := by simp; omega
                    go_wp2_with fail
                    refine HCn.out.mono ?_
                    rintro e w1 ⟨rfl, hw1⟩
                    rw [hw1]
                    clear hw1 w1 HCn
                    go_wp2_with (at_builtin; refine wp_app rfl _ _ rfl w.heap.size _ _ [] (cat (ps.take m)) rfl rfl (Own.nil _ _) HB4.out ?c1 ?c2 ?_)
                    case c1 => have := HL.out; first | omega | (simp; omega)
                    case c2 => have := HG4.out.size; first | omega | (simp; omega)
                    intro v1 w1 ho1 hf1
                    have hg1 : wr.grownBy w1 none := by first | exact hf1.1 | exact (Fr.pre (gb_drew _ none) hf1).1
                    try rw [List.nil_append] at ho1
                    obtain ⟨gC, cC, hv1, hgC0, hgC1, hcC, hcCm, hcell⟩ := ho1.form (cat_ne (by omega) hm)
                    rw [HL.out] at hv1 hcC
                    subst hv1
                    have hc0' := cell_keep hc0 hg1
                    have hc1' := cell_keep hc1 hg1
                    clear hc0 hc1
                    have ht1 : (K : Int).tdiv 8 = ((K / 8 : Nat) : Int) := by rw [Int.tdiv_eq_ediv_of_nonneg (by omega)]; omega
                    have ht2 : (K : Int).tmod 8 = ((K % 8 : Nat) : Int) := by rw [Int.tmod_eq_emod_of_nonneg (by omega)]; omega
                    have hq : K / 8 < P := by omega
                    have hr8 : K % 8 < 8 := by omega
                    generalize K / 8 = q at *
                    generalize K % 8 = r at *
                    have hLe : U + 4 + P ≤ L := by have h7 := congrArg List.length HS.out; rw [List.length_append, frame_len, HPl.out, HU.out.1, HL.out] at h7; omega
                    have hci := hcell (U + 4 + q) (by rw [HL.out]; omega)
                    have hcf : w1.frozen? ⟨gC, U + 4 + q, none⟩ = false := by
                      have h1 := ho1
                      unfold Own at h1
                      rw [HL.out] at h1
                      exact World.ownsRow.frozenAt h1 _
                    generalize hy : (cat (ps.take m)).getD (U + 4 + q) 0 = y at *
                    have HY : Hid ((cat (ps.take m)).getD (U + 4 + q) 0 = y) := hy
                    have HO1 : Hid (Own w1 w.heap.size (.slice (some ⟨gC, 0, none⟩) (cat (ps.take m)).length cC) (cat (ps.take m)) ∧ wr.grownBy w1 none) := ⟨by rw [HL.out]; exact ho1, hg1⟩
                    clear hy ho1 hf1 hg1 hcell hgC0 hgC1
                    unfold maxLen at hcCm
                    have ht3 : ((U + (4 + P) : Nat) : Int) - (P : Int) = ((U + 4 : Nat) : Int) := by omega
                    have ht4 : ((U + 4 : Nat) : Int) + (q : Int) = ((U + 4 + q : Nat) : Int) := by omega
                    have hIL : U + 4 + q < L := by omega
                    generalize hI : U + 4 + q = I at *
                    have HI : Hid (U + 4 + q = I ∧ q < P) := ⟨hI, hq⟩
                    clear hI
                    generalize U + (4 + P) = E1 at *
                    generalize U + 4 = U4 at ht3 ht4
                    go_wp2_with fail
                    go_region
                    go_wp2_with fail
                    obtain ⟨y1, hy1, hy2⟩ := turn_byte y r hr8
                    rw [hy1]
                    have HQ : Hid (Rd (w1.setCell ⟨gC, I, none⟩ (.int .u8 (y1.toNat : Int))).drew (.slice (some ⟨gC, 0, none⟩) L cC) ((cat (ps.take m)).set I y1) ∧ w.grownBy (w1.setCell ⟨gC, I, none⟩ (.int .u8 (y1.toNat : Int))).drew none) := by
                      refine ⟨?_, gb_none (gb_new (gb_none HG4.out HO1.out.2) (gb_set w1 gC I _) (fun k hk => (HO1.out.1.lt k hk).1)) (gb_drew _ none)⟩
                      have h1 := (HO1.out.1.set I y1).rd.keep (gb_drew _ none)
                      rw [List.length_set, HL.out] at h1
                      exact h1
                    have HFt : Hid (frames ((cat (ps.take m)).set I y1) = ([], 0, 11)) := by
                      have h1 := HY.out
                      rw [HS.out, ← HI.out.1, ← HU.out.1, ← HPl.out] at h1
                      have h2 := turn_frames p0 (cat ((ps.take m).drop 1)) HP.out q (by rw [HPl.out]; exact HI.out.2) y1 (by rw [h1]; exact hy2)
                      rw [HPl.out, HU.out.1, HI.out.1, ← HS.out] at h2
                      exact h2
                    generalize (w1.setCell ⟨gC, I, none⟩ (.int .u8 (y1.toNat : Int))).drew = w3 at *
                    refine (frames_any _ _ w3 HQ.out.1 (HT.out.keep0 HQ.out.2) (by rw [List.length_set, HL.out]; omega)).mono ?_
                    rintro x9 w4 ⟨s9, vals9, hx9, ho9, hel9, -, hg9⟩
                    rw [HFt.out] at hx9 hel9
                    have hx8 : x9 = .returned (.tuple #[s9, .int .i64 0, .int .i64 11]) := hx9
                    obtain ⟨a9, c9, hs9⟩ := ho9.shape
                    have hl9 : vals9.length = 0 := by rw [hel9.1]; rfl
                    rw [hl9] at hs9
                    subst hs9
                    subst hx8
                    have H4 : Hid (w.grownBy w4 none) := gb_none HQ.out.2 hg9
                    clear hx9 ho9 hel9 hg9 hl9 HQ
                    go_wp2_with fail
                    refine (known_any _ (HT.out.keep0 H4.out)).mono ?_
                    rintro e w5 ⟨rfl, hg5⟩
                    have H5 : Hid (Below w.heap.size w w5) := gb_below (gb_none H4.out hg5)
                    clear hg5
                    go_wp2
                    go_ret
                    exact ⟨rfl, H5.out⟩
      · clear hgo
        by_cases hm0 : m = 0
        · subst hm0
          obtain ⟨hb0, he0⟩ := hr.out.2.2.2.2 rfl
          have HG : Hid (w.grownBy wr none) := hr.out.2.2.1
          clear hr HC
          subst hb0
          subst he0
          have HCn : Hid (∀ w', Calls Tryd.prog 38 #[.int .i64 cut, .int .i64 1] w' fun e w'' => e = .returned (.int .i64 0) ∧ w'' = w') := fun w' => by
            have := count_any cut 1 1 rfl w' (by decide) (by decide)
            have e : (((cut % ((1 : Nat) : Int)).toNat : Nat) : Int) = 0 := by omega
            rw [e] at this
            exact this
          have HFr : Hid (∀ w', w.grownBy w' none → Calls Tryd.prog 34 #[.slice none 0 0] w' fun x w'' => ∃ s vals, x = .returned (.tuple #[s, .int .i64 0, .int .i64 0]) ∧ OwnV w'' w'.heap.size s vals ∧ vals.length = 0 ∧ w'.grownBy w'' none) := fun w' hg => by
            have := frames_any (.slice none 0 0) [] w' (Rd.nil _) (HT.out.keep0 hg) (by simp)
            exact this.mono fun x w'' ⟨s, vals, hx, h1, h2, _, h4⟩ => ⟨s, vals, hx, h1, h2.1, h4⟩
          go_wp2_with fail
          refine (HCn.out _).mono ?_
          rintro e w1 ⟨rfl, rfl⟩
          go_wp2
          go_loop [13] (fun i => i = .int .i64 0) (fun _ => 0)
          case atStart => rfl
          case round =>
            subst hrel
            go_wp2_with fail
            refine (HFr.out _ HG.out).mono ?_
            rintro e w2 ⟨sv, vals, rfl, ho2, hl2, hg2⟩
            obtain ⟨sa, sc, hs⟩ := ho2.shape
            rw [hl2] at hs
            subst hs
            have HG2 : Hid (w.grownBy w2 none) := gb_none HG.out hg2
            clear ho2 hl2 hg2
            go_wp2
            go_loop [17] (fun i => i = .int .i64 0) (fun _ => 0)
            case atStart => rfl
            case round =>
              subst hrel
              go_wp2_with fail
              refine (known_any _ (HT.out.keep0 HG2.out)).mono ?_
              rintro e w3 ⟨rfl, hg3⟩
              have H3 : Hid (Below w.heap.size w w3) := gb_below (gb_none HG2.out hg3)
              clear hg3
              go_wp2
              go_ret
              exact ⟨rfl, H3.out⟩
        · have HG1 : Hid (w.grownBy wr none ∧ ∀ j, j < m → (ps.getD j []).length ≤ 65536) := ⟨hr.out.2.2.1, hr.out.2.2.2.1⟩
          have HAll : Hid (∀ j, j < m → (ps.getD j []).length ≤ 65536) := HG1.out.2
          obtain ⟨gB, cB, hu7, hgB0, hgB1, hcB, hcBm, -⟩ := hr.out.1.form (cat_ne (by omega) hm)
          obtain ⟨gE, cE, hu8, hcE⟩ := hr.out.2.1.form (by intro h; have := endsOf_len ps m; rw [h] at this; simp at this; omega)
          rw [endsOf_len] at hu8 hcE
          have HE : Hid (∀ j, j < m → wr.cell? ⟨gE, j, none⟩ = some (.int .i64 ((cat (ps.take (j + 1))).length : Int))) := fun j hj => by rw [hcE j hj, endsOf_get ps m j hj]
          subst hu7
          subst hu8
          have HB : Hid (Own wr w.heap.size (.slice (some ⟨gB, 0, none⟩) (cat (ps.take m)).length cB) (cat (ps.take m)) ∧ w.grownBy wr none) := ⟨hr.out.1, HG1.out.1⟩
          have hLs : (cat (ps.take m)).length ≤ 1310860 := HC.out
          clear hr hcE HC HG1 hgB0 hgB1
          obtain ⟨L, hL⟩ : ∃ L, L = (cat (ps.take m)).length := ⟨_, rfl⟩
          rw [← hL] at hcB hLs ⊢
          have HL : Hid ((cat (ps.take m)).length = L) := hL.symm
          clear hL
          unfold maxLen at hcBm
          obtain ⟨N, hN, HCn⟩ := count_N cut L wr hLs
          go_wp2_with fail
          refine HCn.out.mono ?_
          rintro e w1 ⟨rfl, hw1⟩
          rw [hw1]
          clear hw1 w1 HCn
          go_wp2
          go_loop [13] (fun i => ∃ j : Nat, j ≤ m ∧ i = .int .i64 (j : Int) ∧ Hid ((cat (ps.take j)).length ≤ N)) (fun i => m - (intOf i).toNat)
          case atStart => exact ⟨0, by omega, rfl, cat_zero⟩
          case round =>
            obtain ⟨j, hj, rfl, hjN⟩ := hrel
            by_cases hjm : j < m
            · have hc := HE.out j hjm
              obtain ⟨x, hx⟩ : ∃ x, x = (cat (ps.take (j + 1))).length := ⟨_, rfl⟩
              rw [← hx] at hc
              have HX : Hid ((cat (ps.take (j + 1))).length = x) := hx.symm
              clear hx
              by_cases hle : (x : Int) ≤ (N : Int)
              · go_wp2
                go_round
                case rel => exact ⟨j + 1, by omega, by go_num, by show (cat (ps.take (j + 1))).length ≤ N; rw [HX.out]; omega⟩
                case measure => simp [intOf]; omega
              · have hNx : j < m → N < (cat (ps.take (j + 1))).length := fun _ => by rw [HX.out]; omega
                clear HX
                have HFr := frs_call wr w.heap.size gB cB ps m j N HB.out.1 (HT.out.keep0 HB.out.2) HAll.out hm hj (by rw [HL.out]; exact hN) hjN.out hNx (by rw [HL.out]; omega)
                have HE2 : Hid (∀ w', wr.grownBy w' none → ∀ j, j < m → w'.cell? ⟨gE, j, none⟩ = some (.int .i64 ((cat (ps.take (j + 1))).length : Int))) := fun w' hg j hj => cell_keep (HE.out j hj) hg
                have HB2 : Hid (∀ w', wr.grownBy w' none → w.grownBy w' none ∧ Rd w' (.slice (some ⟨gB, 0, none⟩) L cB) (cat (ps.take m))) := fun w' hg => ⟨gb_none HB.out.2 hg, by have := (HB.out.1.keep hg).rd; rw [HL.out] at this; exact this⟩
                clear HE HB hNx hjN
                generalize (cat (ps.take j)).length = A at *
                go_wp2_with fail
                refine HFr.out.mono ?_
                rintro x w2 ⟨sv, vals, e2, d, rfl, ho2, hel2, hd1, hd2, hg2⟩
                obtain ⟨sa, sc, hs⟩ := ho2.shape
                have hvl : vals.length = j := by rw [hel2.1, List.length_take]; omega
                rw [hvl] at hs
                subst hs
                have H2 : Hid (OwnV w2 wr.heap.size (.slice sa j sc) vals ∧ Els w2 wr.heap.size vals (ps.take j) ∧ w.grownBy w2 none ∧ Rd w2 (.slice (some ⟨gB, 0, none⟩) L cB) (cat (ps.take m)) ∧ ∀ j, j < m → w2.cell? ⟨gE, j, none⟩ = some (.int .i64 ((cat (ps.take (j + 1))).length : Int))) := ⟨ho2, hel2, (HB2.out w2 hg2).1, (HB2.out w2 hg2).2, HE2.out w2 hg2⟩
                clear ho2 hel2 hg2 hvl HB2 HE2 HFr
                cases d with
                | true =>
                  go_wp2
                  go_loopw [17] (fun i wr' => ∃ k : Nat, k ≤ j ∧ i = .int .i64 (k : Int) ∧ Hid (∃ n, wr' = w2.drewN n)) (fun i _ => j - (intOf i).toNat)
                  case atStart => exact ⟨0, by omega, rfl, 0, rfl⟩
                  case round =>
                    clear hd1 hd2
                    obtain ⟨k, hk, rfl, hd⟩ := hrel
                    by_cases hkj : k < j
                    · obtain ⟨gM, cM, hsM, -, -, -, hcM⟩ := H2.out.1.form (by intro h; have := H2.out.2.1.1; rw [h] at this; simp at this; omega)
                      simp only [Value.slice.injEq] at hsM
                      obtain ⟨rfl, -, rfl⟩ := hsM
                      have HG4 : Hid (w.grownBy wr none) := by obtain ⟨n4, rfl⟩ := hd.out; exact gb_none H2.out.2.2.1 (gb_drewN _ _ _)
                      obtain ⟨a', c', hv', hml', hcells⟩ := HV.out.keep HG4.out
                      simp only [Value.slice.injEq, true_and] at hv'
                      obtain ⟨rfl, rfl⟩ := hv'
                      obtain ⟨b0, o0, x2, rfl, d2, r2⟩ := hcells k (by omega)
                      have hvl : vals.length = j := by rw [H2.out.2.1.1, List.length_take]; omega
                      have d1 : wr.cell? ⟨gM, k, none⟩ = some (vals.getD k undef) := by obtain ⟨n4, rfl⟩ := hd.out; exact hcM k (by omega)
                      have HR : Hid (Rd wr (vals.getD k undef) (ps.getD k []) ∧ Rd wr x2 (ps.getD k [])) := by
                        refine ⟨?_, r2⟩
                        obtain ⟨n4, rfl⟩ := hd.out
                        have h5 := (H2.out.2.1.2 k (by omega)).rd.keep (gb_drewN w2 n4 none)
                        rw [getD_take _ hkj] at h5
                        exact h5
                      have HD : Hid (∃ n, wr = w2.drewN n) := hd
                      clear r2 hcM hcells hd hvl
                      generalize vals.getD k undef = x1 at *
                      generalize ps.getD k [] = q at *
                      have HS : Hid (∀ n, Calls Tryd.prog 12 #[x1, x2] (wr.drewN n) fun e w' => e = .returned (.bool true) ∧ ∃ m, w' = (wr.drewN n).drewN m) := fun n =>
                        (same_quiet x1 x2 q q (wr.drewN n) (HR.out.1.keep (gb_drewN _ _ _)) (HR.out.2.keep (gb_drewN _ _ _))).mono fun e w' ⟨he, hm⟩ => ⟨by rw [he, decide_eq_true rfl], hm⟩
                      clear HR
                      go_wp2
                      go_quiet ((go_at_call 12; exact Calls.quiet_of (HS.out _)))
                      go_wp2
                      go_roundw
                      case rel => exact ⟨k + 1, by omega, by go_num, by obtain ⟨n4, rfl⟩ := HD.out; exact ⟨_, drewN_two _ _ _⟩⟩
                      case measure => simp [intOf]; omega
                    · have HG4 : Hid (w.grownBy wr none) := by obtain ⟨n4, rfl⟩ := hd.out; exact gb_none H2.out.2.2.1 (gb_drewN _ _ _)
                      have HB4 : Hid (Rd wr (.slice (some ⟨gB, 0, none⟩) L cB) (cat (ps.take m))) := by obtain ⟨n4, rfl⟩ := hd.out; exact H2.out.2.2.2.1.keep (gb_drewN _ _ _)
                      have HE4 : Hid (wr.cell? ⟨gE, 0, none⟩ = some (.int .i64 ((cat (ps.take (0 + 1))).length : Int))) := by obtain ⟨n4, rfl⟩ := hd.out; exact H2.out.2.2.2.2 0 (by omega)
                      clear hd H2
                      obtain ⟨a', c', hv', hml', hcells⟩ := HV.out.keep HG4.out
                      simp only [Value.slice.injEq, true_and] at hv'
                      obtain ⟨rfl, rfl⟩ := hv'
                      obtain ⟨b0, o0, u0, rfl, hc0, hr0⟩ := hcells 0 (by omega)
                      rw [Nat.add_zero] at hc0
                      have HR0 : Hid (Rd wr u0 (ps.getD 0 [])) := hr0
                      obtain ⟨a0, c0, hu0, -, -, -, -⟩ := hr0
                      clear hcells
                      have HP : Hid ((ps.getD 0 []).length ≤ 65536) := HAll.out 0 (by omega)
                      have HS : Hid (cat (ps.take m) = frame (ps.getD 0 []) ++ cat ((ps.take m).drop 1)) := cat_head (by omega) (by omega)
                      have HF1 : Hid (cat (ps.take (0 + 1)) = frame (ps.getD 0 [])) := cat_one (by omega)
                      have hc1 := HE4.out
                      rw [HF1.out, frame_len] at hc1
                      clear HE4 HF1
                      generalize hp0 : ps.getD 0 [] = p0 at *
                      clear hp0
                      subst hu0
                      by_cases hz : p0.length = 0
                      · have hz2 : ((p0.length : Int) == 0) = true := by simp [hz]
                        rw [hz] at hc0
                        clear hz2 hc1
                        go_wp2_with fail
                        refine (known_any _ (HT.out.keep0 HG4.out)).mono ?_
                        rintro e w3 ⟨rfl, hg3⟩
                        have H3 : Hid (Below w.heap.size w w3) := gb_below (gb_none HG4.out hg3)
                        clear hg3
                        go_wp2
                        go_ret
                        exact ⟨rfl, H3.out⟩
                      · have hpl : p0.length ≤ 65536 := HP.out
                        have hzi : ¬ (p0.length : Int) = 0 := by omega
                        have hmb : ((m : Int) == 0) = false := by simp; omega
                        obtain ⟨K, hK, HCn⟩ := count_K bit p0.length wr (by omega) hpl
                        obtain ⟨P, hP⟩ : ∃ P, P = p0.length := ⟨_, rfl⟩
                        have HPl : Hid (p0.length = P) := hP.symm
                        rw [← hP] at hc0 hc1 hzi hpl hK HCn hz
                        clear hP
                        obtain ⟨U, hU⟩ : ∃ U, U = (uv P).length := ⟨_, rfl⟩
                        have HU : Hid ((uv P).length = U ∧ U ≤ 3) := ⟨hU.symm, by rw [hU]; exact uv_le3 hpl⟩
                        rw [← hU] at hc1
                        have hU3 : U ≤ 3 := HU.out.2
                        clear hU
                        have hPb : ((P : Int) == 0) = false := by simp; omega
                        go_wp2_with fail
                        refine HCn.out.mono ?_
                        rintro e w1 ⟨rfl, hw1⟩
                        rw [hw1]
                        clear hw1 w1 HCn
                        go_wp2_with (at_builtin; refine wp_app rfl _ _ rfl w.heap.size _ _ [] (cat (ps.take m)) rfl rfl (Own.nil _ _) HB4.out ?c1 ?c2 ?_)
                        case c1 => have := HL.out; first | omega | (simp; omega)
                        case c2 => have := HG4.out.size; first | omega | (simp; omega)
                        intro v1 w1 ho1 hf1
                        have hg1 : wr.grownBy w1 none := by first | exact hf1.1 | exact (Fr.pre (gb_drew _ none) hf1).1
                        try rw [List.nil_append] at ho1
                        obtain ⟨gC, cC, hv1, hgC0, hgC1, hcC, hcCm, hcell⟩ := ho1.form (cat_ne (by omega) hm)
                        rw [HL.out] at hv1 hcC
                        subst hv1
                        have hc0' := cell_keep hc0 hg1
                        have hc1' := cell_keep hc1 hg1
                        clear hc0 hc1
                        have ht1 : (K : Int).tdiv 8 = ((K / 8 : Nat) : Int) := by rw [Int.tdiv_eq_ediv_of_nonneg (by omega)]; omega
                        have ht2 : (K : Int).tmod 8 = ((K % 8 : Nat) : Int) := by rw [Int.tmod_eq_emod_of_nonneg (by omega)]; omega
                        have hq : K / 8 < P := by omega
                        have hr8 : K % 8 < 8 := by omega
                        generalize K / 8 = q at *
                        generalize K % 8 = r at *
                        have hLe : U + 4 + P ≤ L := by have h7 := congrArg List.length HS.out; rw [List.length_append, frame_len, HPl.out, HU.out.1, HL.out] at h7; omega
                        have hci := hcell (U + 4 + q) (by rw [HL.out]; omega)
                        have hcf : w1.frozen? ⟨gC, U + 4 + q, none⟩ = false := by
                          have h1 := ho1
                          unfold Own at h1
                          rw [HL.out] at h1
                          exact World.ownsRow.frozenAt h1 _
                        generalize hy : (cat (ps.take m)).getD (U + 4 + q) 0 = y at *
                        have HY : Hid ((cat (ps.take m)).getD (U + 4 + q) 0 = y) := hy
                        have HO1 : Hid (Own w1 w.heap.size (.slice (some ⟨gC, 0, none⟩) (cat (ps.take m)).length cC) (cat (ps.take m)) ∧ wr.grownBy w1 none) := ⟨by rw [HL.out]; exact ho1, hg1⟩
                        clear hy ho1 hf1 hg1 hcell hgC0 hgC1
                        unfold maxLen at hcCm
                        have ht3 : ((U + (4 + P) : Nat) : Int) - (P : Int) = ((U + 4 : Nat) : Int) := by omega
                        have ht4 : ((U + 4 : Nat) : Int) + (q : Int) = ((U + 4 + q : Nat) : Int) := by omega
                        have hIL : U + 4 + q < L := by omega
                        generalize hI : U + 4 + q = I at *
                        have HI : Hid (U + 4 + q = I ∧ q < P) := ⟨hI, hq⟩
                        clear hI
                        generalize U + (4 + P) = E1 at *
                        generalize U + 4 = U4 at ht3 ht4
                        go_wp2_with fail
                        go_region
                        go_wp2_with fail
                        obtain ⟨y1, hy1, hy2⟩ := turn_byte y r hr8
                        rw [hy1]
                        have HQ : Hid (Rd (w1.setCell ⟨gC, I, none⟩ (.int .u8 (y1.toNat : Int))).drew (.slice (some ⟨gC, 0, none⟩) L cC) ((cat (ps.take m)).set I y1) ∧ w.grownBy (w1.setCell ⟨gC, I, none⟩ (.int .u8 (y1.toNat : Int))).drew none) := by
                          refine ⟨?_, gb_none (gb_new (gb_none HG4.out HO1.out.2) (gb_set w1 gC I _) (fun k hk => (HO1.out.1.lt k hk).1)) (gb_drew _ none)⟩
                          have h1 := (HO1.out.1.set I y1).rd.keep (gb_drew _ none)
                          rw [List.length_set, HL.out] at h1
                          exact h1
                        have HFt : Hid (frames ((cat (ps.take m)).set I y1) = ([], 0, 11)) := by
                          have h1 := HY.out
                          rw [HS.out, ← HI.out.1, ← HU.out.1, ← HPl.out] at h1
                          have h2 := turn_frames p0 (cat ((ps.take m).drop 1)) HP.out q (by rw [HPl.out]; exact HI.out.2) y1 (by rw [h1]; exact hy2)
                          rw [HPl.out, HU.out.1, HI.out.1, ← HS.out] at h2
                          exact h2
                        generalize (w1.setCell ⟨gC, I, none⟩ (.int .u8 (y1.toNat : Int))).drew = w3 at *
                        refine (frames_any _ _ w3 HQ.out.1 (HT.out.keep0 HQ.out.2) (by rw [List.length_set, HL.out]; omega)).mono ?_
                        rintro x9 w4 ⟨s9, vals9, hx9, ho9, hel9, -, hg9⟩
                        rw [HFt.out] at hx9 hel9
                        have hx8 : x9 = .returned (.tuple #[s9, .int .i64 0, .int .i64 11]) := hx9
                        obtain ⟨a9, c9, hs9⟩ := ho9.shape
                        have hl9 : vals9.length = 0 := by rw [hel9.1]; rfl
                        rw [hl9] at hs9
                        subst hs9
                        subst hx8
                        have H4 : Hid (w.grownBy w4 none) := gb_none HQ.out.2 hg9
                        clear hx9 ho9 hel9 hg9 hl9 HQ
                        go_wp2_with fail
                        refine (known_any _ (HT.out.keep0 H4.out)).mono ?_
                        rintro e w5 ⟨rfl, hg5⟩
                        have H5 : Hid (Below w.heap.size w w5) := gb_below (gb_none H4.out hg5)
                        clear hg5
                        go_wp2
                        go_ret
                        exact ⟨rfl, H5.out⟩
                | false =>
                  go_wp2
                  go_loopw [17] (fun i wr' => ∃ k : Nat, k ≤ j ∧ i = .int .i64 (k : Int) ∧ Hid (∃ n, wr' = w2.drewN n)) (fun i _ => j - (intOf i).toNat)
                  case atStart => exact ⟨0, by omega, rfl, 0, rfl⟩
                  case round =>
                    clear hd1 hd2
                    obtain ⟨k, hk, rfl, hd⟩ := hrel
                    by_cases hkj : k < j
                    · obtain ⟨gM, cM, hsM, -, -, -, hcM⟩ := H2.out.1.form (by intro h; have := H2.out.2.1.1; rw [h] at this; simp at this; omega)
                      simp only [Value.slice.injEq] at hsM
                      obtain ⟨rfl, -, rfl⟩ := hsM
                      have HG4 : Hid (w.grownBy wr none) := by obtain ⟨n4, rfl⟩ := hd.out; exact gb_none H2.out.2.2.1 (gb_drewN _ _ _)
                      obtain ⟨a', c', hv', hml', hcells⟩ := HV.out.keep HG4.out
                      simp only [Value.slice.injEq, true_and] at hv'
                      obtain ⟨rfl, rfl⟩ := hv'
                      obtain ⟨b0, o0, x2, rfl, d2, r2⟩ := hcells k (by omega)
                      have hvl : vals.length = j := by rw [H2.out.2.1.1, List.length_take]; omega
                      have d1 : wr.cell? ⟨gM, k, none⟩ = some (vals.getD k undef) := by obtain ⟨n4, rfl⟩ := hd.out; exact hcM k (by omega)
                      have HR : Hid (Rd wr (vals.getD k undef) (ps.getD k []) ∧ Rd wr x2 (ps.getD k [])) := by
                        refine ⟨?_, r2⟩
                        obtain ⟨n4, rfl⟩ := hd.out
                        have h5 := (H2.out.2.1.2 k (by omega)).rd.keep (gb_drewN w2 n4 none)
                        rw [getD_take _ hkj] at h5
                        exact h5
                      have HD : Hid (∃ n, wr = w2.drewN n) := hd
                      clear r2 hcM hcells hd hvl
                      generalize vals.getD k undef = x1 at *
                      generalize ps.getD k [] = q at *
                      have HS : Hid (∀ n, Calls Tryd.prog 12 #[x1, x2] (wr.drewN n) fun e w' => e = .returned (.bool true) ∧ ∃ m, w' = (wr.drewN n).drewN m) := fun n =>
                        (same_quiet x1 x2 q q (wr.drewN n) (HR.out.1.keep (gb_drewN _ _ _)) (HR.out.2.keep (gb_drewN _ _ _))).mono fun e w' ⟨he, hm⟩ => ⟨by rw [he, decide_eq_true rfl], hm⟩
                      clear HR
                      go_wp2
                      go_quiet ((go_at_call 12; exact Calls.quiet_of (HS.out _)))
                      go_wp2
                      go_roundw
                      case rel => exact ⟨k + 1, by omega, by go_num, by obtain ⟨n4, rfl⟩ := HD.out; exact ⟨_, drewN_two _ _ _⟩⟩
                      case measure => simp [intOf]; omega
                    · have HG4 : Hid (w.grownBy wr none) := by obtain ⟨n4, rfl⟩ := hd.out; exact gb_none H2.out.2.2.1 (gb_drewN _ _ _)
                      have HB4 : Hid (Rd wr (.slice (some ⟨gB, 0, none⟩) L cB) (cat (ps.take m))) := by obtain ⟨n4, rfl⟩ := hd.out; exact H2.out.2.2.2.1.keep (gb_drewN _ _ _)
                      have HE4 : Hid (wr.cell? ⟨gE, 0, none⟩ = some (.int .i64 ((cat (ps.take (0 + 1))).length : Int))) := by obtain ⟨n4, rfl⟩ := hd.out; exact H2.out.2.2.2.2 0 (by omega)
                      clear hd H2
                      obtain ⟨a', c', hv', hml', hcells⟩ := HV.out.keep HG4.out
                      simp only [Value.slice.injEq, true_and] at hv'
                      obtain ⟨rfl, rfl⟩ := hv'
                      obtain ⟨b0, o0, u0, rfl, hc0, hr0⟩ := hcells 0 (by omega)
                      rw [Nat.add_zero] at hc0
                      have HR0 : Hid (Rd wr u0 (ps.getD 0 [])) := hr0
                      obtain ⟨a0, c0, hu0, -, -, -, -⟩ := hr0
                      clear hcells
                      have HP : Hid ((ps.getD 0 []).length ≤ 65536) := HAll.out 0 (by omega)
                      have HS : Hid (cat (ps.take m) = frame (ps.getD 0 []) ++ cat ((ps.take m).drop 1)) := cat_head (by omega) (by omega)
                      have HF1 : Hid (cat (ps.take (0 + 1)) = frame (ps.getD 0 [])) := cat_one (by omega)
                      have hc1 := HE4.out
                      rw [HF1.out, frame_len] at hc1
                      clear HE4 HF1
                      generalize hp0 : ps.getD 0 [] = p0 at *
                      clear hp0
                      subst hu0
                      by_cases hz : p0.length = 0
                      · have hz2 : ((p0.length : Int) == 0) = true := by simp [hz]
                        rw [hz] at hc0
                        clear hz2 hc1
                        go_wp2_with fail
                        refine (known_any _ (HT.out.keep0 HG4.out)).mono ?_
                        rintro e w3 ⟨rfl, hg3⟩
                        have H3 : Hid (Below w.heap.size w w3) := gb_below (gb_none HG4.out hg3)
                        clear hg3
                        go_wp2
                        go_ret
                        exact ⟨rfl, H3.out⟩
                      · have hpl : p0.length ≤ 65536 := HP.out
                        have hzi : ¬ (p0.length : Int) = 0 := by omega
                        have hmb : ((m : Int) == 0) = false := by simp; omega
                        obtain ⟨K, hK, HCn⟩ := count_K bit p0.length wr (by omega) hpl
                        obtain ⟨P, hP⟩ : ∃ P, P = p0.length := ⟨_, rfl⟩
                        have HPl : Hid (p0.length = P) := hP.symm
                        rw [← hP] at hc0 hc1 hzi hpl hK HCn hz
                        clear hP
                        obtain ⟨U, hU⟩ : ∃ U, U = (uv P).length := ⟨_, rfl⟩
                        have HU : Hid ((uv P).length = U ∧ U ≤ 3) := ⟨hU.symm, by rw [hU]; exact uv_le3 hpl⟩
                        rw [← hU] at hc1
                        have hU3 : U ≤ 3 := HU.out.2
                        clear hU
                        have hPb : ((P : Int) == 0) = false := by simp; omega
                        go_wp2_with fail
                        refine HCn.out.mono ?_
                        rintro e w1 ⟨rfl, hw1⟩
                        rw [hw1]
                        clear hw1 w1 HCn
                        go_wp2_with (at_builtin; refine wp_app rfl _ _ rfl w.heap.size _ _ [] (cat (ps.take m)) rfl rfl (Own.nil _ _) HB4.out ?c1 ?c2 ?_)
                        case c1 => have := HL.out; first | omega | (simp; omega)
                        case c2 => have := HG4.out.size; first | omega | (simp; omega)
                        intro v1 w1 ho1 hf1
                        have hg1 : wr.grownBy w1 none := by first | exact hf1.1 | exact (Fr.pre (gb_drew _ none) hf1).1
                        try rw [List.nil_append] at ho1
                        obtain ⟨gC, cC, hv1, hgC0, hgC1, hcC, hcCm, hcell⟩ := ho1.form (cat_ne (by omega) hm)
                        rw [HL.out] at hv1 hcC
                        subst hv1
                        have hc0' := cell_keep hc0 hg1
                        have hc1' := cell_keep hc1 hg1
                        clear hc0 hc1
                        have ht1 : (K : Int).tdiv 8 = ((K / 8 : Nat) : Int) := by rw [Int.tdiv_eq_ediv_of_nonneg (by omega)]; omega
                        have ht2 : (K : Int).tmod 8 = ((K % 8 : Nat) : Int) := by rw [Int.tmod_eq_emod_of_nonneg (by omega)]; omega
                        have hq : K / 8 < P := by omega
                        have hr8 : K % 8 < 8 := by omega
                        generalize K / 8 = q at *
                        generalize K % 8 = r at *
                        have hLe : U + 4 + P ≤ L := by have h7 := congrArg List.length HS.out; rw [List.length_append, frame_len, HPl.out, HU.out.1, HL.out] at h7; omega
                        have hci := hcell (U + 4 + q) (by rw [HL.out]; omega)
                        have hcf : w1.frozen? ⟨gC, U + 4 + q, none⟩ = false := by
                          have h1 := ho1
                          unfold Own at h1
                          rw [HL.out] at h1
                          exact World.ownsRow.frozenAt h1 _
                        generalize hy : (cat (ps.take m)).getD (U + 4 + q) 0 = y at *
                        have HY : Hid ((cat (ps.take m)).getD (U + 4 + q) 0 = y) := hy
                        have HO1 : Hid (Own w1 w.heap.size (.slice (some ⟨gC, 0, none⟩) (cat (ps.take m)).length cC) (cat (ps.take m)) ∧ wr.grownBy w1 none) := ⟨by rw [HL.out]; exact ho1, hg1⟩
                        clear hy ho1 hf1 hg1 hcell hgC0 hgC1
                        unfold maxLen at hcCm
                        have ht3 : ((U + (4 + P) : Nat) : Int) - (P : Int) = ((U + 4 : Nat) : Int) := by omega
                        have ht4 : ((U + 4 : Nat) : Int) + (q : Int) = ((U + 4 + q : Nat) : Int) := by omega
                        have hIL : U + 4 + q < L := by omega
                        generalize hI : U + 4 + q = I at *
                        have HI : Hid (U + 4 + q = I ∧ q < P) := ⟨hI, hq⟩
                        clear hI
                        generalize U + (4 + P) = E1 at *
                        generalize U + 4 = U4 at ht3 ht4
                        go_wp2_with fail
                        go_region
                        go_wp2_with fail
                        obtain ⟨y1, hy1, hy2⟩ := turn_byte y r hr8
                        rw [hy1]
                        have HQ : Hid (Rd (w1.setCell ⟨gC, I, none⟩ (.int .u8 (y1.toNat : Int))).drew (.slice (some ⟨gC, 0, none⟩) L cC) ((cat (ps.take m)).set I y1) ∧ w.grownBy (w1.setCell ⟨gC, I, none⟩ (.int .u8 (y1.toNat : Int))).drew none) := by
                          refine ⟨?_, gb_none (gb_new (gb_none HG4.out HO1.out.2) (gb_set w1 gC I _) (fun k hk => (HO1.out.1.lt k hk).1)) (gb_drew _ none)⟩
                          have h1 := (HO1.out.1.set I y1).rd.keep (gb_drew _ none)
                          rw [List.length_set, HL.out] at h1
                          exact h1
                        have HFt : Hid (frames ((cat (ps.take m)).set I y1) = ([], 0, 11)) := by
                          have h1 := HY.out
                          rw [HS.out, ← HI.out.1, ← HU.out.1, ← HPl.out] at h1
                          have h2 := turn_frames p0 (cat ((ps.take m).drop 1)) HP.out q (by rw [HPl.out]; exact HI.out.2) y1 (by rw [h1]; exact hy2)
                          rw [HPl.out, HU.out.1, HI.out.1, ← HS.out] at h2
                          exact h2
                        generalize (w1.setCell ⟨gC, I, none⟩ (.int .u8 (y1.toNat : Int))).drew = w3 at *
                        refine (frames_any _ _ w3 HQ.out.1 (HT.out.keep0 HQ.out.2) (by rw [List.length_set, HL.out]; omega)).mono ?_
                        rintro x9 w4 ⟨s9, vals9, hx9, ho9, hel9, -, hg9⟩
                        rw [HFt.out] at hx9 hel9
                        have hx8 : x9 = .returned (.tuple #[s9, .int .i64 0, .int .i64 11]) := hx9
                        obtain ⟨a9, c9, hs9⟩ := ho9.shape
                        have hl9 : vals9.length = 0 := by rw [hel9.1]; rfl
                        rw [hl9] at hs9
                        subst hs9
                        subst hx8
                        have H4 : Hid (w.grownBy w4 none) := gb_none HQ.out.2 hg9
                        clear hx9 ho9 hel9 hg9 hl9 HQ
                        go_wp2_with fail
                        refine (known_any _ (HT.out.keep0 H4.out)).mono ?_
                        rintro e w5 ⟨rfl, hg5⟩
                        have H5 : Hid (Below w.heap.size w w5) := gb_below (gb_none H4.out hg5)
                        clear hg5
                        go_wp2
                        go_ret
                        exact ⟨rfl, H5.out⟩
            · have hNx : j < m → N < (cat (ps.take (j + 1))).length := fun h => absurd h hjm
              have HFr := frs_call wr w.heap.size gB cB ps m j N HB.out.1 (HT.out.keep0 HB.out.2) HAll.out hm hj (by rw [HL.out]; exact hN) hjN.out hNx (by rw [HL.out]; omega)
              have HE2 : Hid (∀ w', wr.grownBy w' none → ∀ j, j < m → w'.cell? ⟨gE, j, none⟩ = some (.int .i64 ((cat (ps.take (j + 1))).length : Int))) := fun w' hg j hj => cell_keep (HE.out j hj) hg
              have HB2 : Hid (∀ w', wr.grownBy w' none → w.grownBy w' none ∧ Rd w' (.slice (some ⟨gB, 0, none⟩) L cB) (cat (ps.take m))) := fun w' hg => ⟨gb_none HB.out.2 hg, by have := (HB.out.1.keep hg).rd; rw [HL.out] at this; exact this⟩
              clear HE HB hNx hjN
              generalize (cat (ps.take j)).length = A at *
              go_wp2_with fail
              refine HFr.out.mono ?_
              rintro x w2 ⟨sv, vals, e2, d, rfl, ho2, hel2, hd1, hd2, hg2⟩
              obtain ⟨sa, sc, hs⟩ := ho2.shape
              have hvl : vals.length = j := by rw [hel2.1, List.length_take]; omega
              rw [hvl] at hs
              subst hs
              have H2 : Hid (OwnV w2 wr.heap.size (.slice sa j sc) vals ∧ Els w2 wr.heap.size vals (ps.take j) ∧ w.grownBy w2 none ∧ Rd w2 (.slice (some ⟨gB, 0, none⟩) L cB) (cat (ps.take m)) ∧ ∀ j, j < m → w2.cell? ⟨gE, j, none⟩ = some (.int .i64 ((cat (ps.take (j + 1))).length : Int))) := ⟨ho2, hel2, (HB2.out w2 hg2).1, (HB2.out w2 hg2).2, HE2.out w2 hg2⟩
              clear ho2 hel2 hg2 hvl HB2 HE2 HFr
              cases d with
              | true =>
                go_wp2
                go_loopw [17] (fun i wr' => ∃ k : Nat, k ≤ j ∧ i = .int .i64 (k : Int) ∧ Hid (∃ n, wr' = w2.drewN n)) (fun i _ => j - (intOf i).toNat)
                case atStart => exact ⟨0, by omega, rfl, 0, rfl⟩
                case round =>
                  clear hd1 hd2
                  obtain ⟨k, hk, rfl, hd⟩ := hrel
                  by_cases hkj : k < j
                  · obtain ⟨gM, cM, hsM, -, -, -, hcM⟩ := H2.out.1.form (by intro h; have := H2.out.2.1.1; rw [h] at this; simp at this; omega)
                    simp only [Value.slice.injEq] at hsM
                    obtain ⟨rfl, -, rfl⟩ := hsM
                    have HG4 : Hid (w.grownBy wr none) := by obtain ⟨n4, rfl⟩ := hd.out; exact gb_none H2.out.2.2.1 (gb_drewN _ _ _)
                    obtain ⟨a', c', hv', hml', hcells⟩ := HV.out.keep HG4.out
                    simp only [Value.slice.injEq, true_and] at hv'
                    obtain ⟨rfl, rfl⟩ := hv'
                    obtain ⟨b0, o0, x2, rfl, d2, r2⟩ := hcells k (by omega)
                    have hvl : vals.length = j := by rw [H2.out.2.1.1, List.length_take]; omega
                    have d1 : wr.cell? ⟨gM, k, none⟩ = some (vals.getD k undef) := by obtain ⟨n4, rfl⟩ := hd.out; exact hcM k (by omega)
                    have HR : Hid (Rd wr (vals.getD k undef) (ps.getD k []) ∧ Rd wr x2 (ps.getD k [])) := by
                      refine ⟨?_, r2⟩
                      obtain ⟨n4, rfl⟩ := hd.out
                      have h5 := (H2.out.2.1.2 k (by omega)).rd.keep (gb_drewN w2 n4 none)
                      rw [getD_take _ hkj] at h5
                      exact h5
                    have HD : Hid (∃ n, wr = w2.drewN n) := hd
                    clear r2 hcM hcells hd hvl
                    generalize vals.getD k undef = x1 at *
                    generalize ps.getD k [] = q at *
                    have HS : Hid (∀ n, Calls Tryd.prog 12 #[x1, x2] (wr.drewN n) fun e w' => e = .returned (.bool true) ∧ ∃ m, w' = (wr.drewN n).drewN m) := fun n =>
                      (same_quiet x1 x2 q q (wr.drewN n) (HR.out.1.keep (gb_drewN _ _ _)) (HR.out.2.keep (gb_drewN _ _ _))).mono fun e w' ⟨he, hm⟩ => ⟨by rw [he, decide_eq_true rfl], hm⟩
                    clear HR
                    go_wp2
                    go_quiet ((go_at_call 12; exact Calls.quiet_of (HS.out _)))
                    go_wp2
                    go_roundw
                    case rel => exact ⟨k + 1, by omega, by go_num, by obtain ⟨n4, rfl⟩ := HD.out; exact ⟨_, drewN_two _ _ _⟩⟩
                    case measure => simp [intOf]; omega
                  · have HG4 : Hid (w.grownBy wr none) := by obtain ⟨n4, rfl⟩ := hd.out; exact gb_none H2.out.2.2.1 (gb_drewN _ _ _)
                    have HB4 : Hid (Rd wr (.slice (some ⟨gB, 0, none⟩) L cB) (cat (ps.take m))) := by obtain ⟨n4, rfl⟩ := hd.out; exact H2.out.2.2.2.1.keep (gb_drewN _ _ _)
                    have HE4 : Hid (wr.cell? ⟨gE, 0, none⟩ = some (.int .i64 ((cat (ps.take (0 + 1))).length : Int))) := by obtain ⟨n4, rfl⟩ := hd.out; exact H2.out.2.2.2.2 0 (by omega)
                    clear hd H2
                    obtain ⟨a', c', hv', hml', hcells⟩ := HV.out.keep HG4.out
                    simp only [Value.slice.injEq, true_and] at hv'
                    obtain ⟨rfl, rfl⟩ := hv'
                    obtain ⟨b0, o0, u0, rfl, hc0, hr0⟩ := hcells 0 (by omega)
                    rw [Nat.add_zero] at hc0
                    have HR0 : Hid (Rd wr u0 (ps.getD 0 [])) := hr0
                    obtain ⟨a0, c0, hu0, -, -, -, -⟩ := hr0
                    clear hcells
                    have HP : Hid ((ps.getD 0 []).length ≤ 65536) := HAll.out 0 (by omega)
                    have HS : Hid (cat (ps.take m) = frame (ps.getD 0 []) ++ cat ((ps.take m).drop 1)) := cat_head (by omega) (by omega)
                    have HF1 : Hid (cat (ps.take (0 + 1)) = frame (ps.getD 0 [])) := cat_one (by omega)
                    have hc1 := HE4.out
                    rw [HF1.out, frame_len] at hc1
                    clear HE4 HF1
                    generalize hp0 : ps.getD 0 [] = p0 at *
                    clear hp0
                    subst hu0
                    by_cases hz : p0.length = 0
                    · have hz2 : ((p0.length : Int) == 0) = true := by simp [hz]
                      rw [hz] at hc0
                      clear hz2 hc1
                      go_wp2_with fail
                      refine (known_any _ (HT.out.keep0 HG4.out)).mono ?_
                      rintro e w3 ⟨rfl, hg3⟩
                      have H3 : Hid (Below w.heap.size w w3) := gb_below (gb_none HG4.out hg3)
                      clear hg3
                      go_wp2
                      go_ret
                      exact ⟨rfl, H3.out⟩
                    · have hpl : p0.length ≤ 65536 := HP.out
                      have hzi : ¬ (p0.length : Int) = 0 := by omega
                      have hmb : ((m : Int) == 0) = false := by simp; omega
                      obtain ⟨K, hK, HCn⟩ := count_K bit p0.length wr (by omega) hpl
                      obtain ⟨P, hP⟩ : ∃ P, P = p0.length := ⟨_, rfl⟩
                      have HPl : Hid (p0.length = P) := hP.symm
                      rw [← hP] at hc0 hc1 hzi hpl hK HCn hz
                      clear hP
                      obtain ⟨U, hU⟩ : ∃ U, U = (uv P).length := ⟨_, rfl⟩
                      have HU : Hid ((uv P).length = U ∧ U ≤ 3) := ⟨hU.symm, by rw [hU]; exact uv_le3 hpl⟩
                      rw [← hU] at hc1
                      have hU3 : U ≤ 3 := HU.out.2
                      clear hU
                      have hPb : ((P : Int) == 0) = false := by simp; omega
                      go_wp2_with fail
                      refine HCn.out.mono ?_
                      rintro e w1 ⟨rfl, hw1⟩
                      rw [hw1]
                      clear hw1 w1 HCn
                      go_wp2_with (at_builtin; refine wp_app rfl _ _ rfl w.heap.size _ _ [] (cat (ps.take m)) rfl rfl (Own.nil _ _) HB4.out ?c1 ?c2 ?_)
                      case c1 => have := HL.out; first | omega | (simp; omega)
                      case c2 => have := HG4.out.size; first | omega | (simp; omega)
                      intro v1 w1 ho1 hf1
                      have hg1 : wr.grownBy w1 none := by first | exact hf1.1 | exact (Fr.pre (gb_drew _ none) hf1).1
                      try rw [List.nil_append] at ho1
                      obtain ⟨gC, cC, hv1, hgC0, hgC1, hcC, hcCm, hcell⟩ := ho1.form (cat_ne (by omega) hm)
                      rw [HL.out] at hv1 hcC
                      subst hv1
                      have hc0' := cell_keep hc0 hg1
                      have hc1' := cell_keep hc1 hg1
                      clear hc0 hc1
                      have ht1 : (K : Int).tdiv 8 = ((K / 8 : Nat) : Int) := by rw [Int.tdiv_eq_ediv_of_nonneg (by omega)]; omega
                      have ht2 : (K : Int).tmod 8 = ((K % 8 : Nat) : Int) := by rw [Int.tmod_eq_emod_of_nonneg (by omega)]; omega
                      have hq : K / 8 < P := by omega
                      have hr8 : K % 8 < 8 := by omega
                      generalize K / 8 = q at *
                      generalize K % 8 = r at *
                      have hLe : U + 4 + P ≤ L := by have h7 := congrArg List.length HS.out; rw [List.length_append, frame_len, HPl.out, HU.out.1, HL.out] at h7; omega
                      have hci := hcell (U + 4 + q) (by rw [HL.out]; omega)
                      have hcf : w1.frozen? ⟨gC, U + 4 + q, none⟩ = false := by
                        have h1 := ho1
                        unfold Own at h1
                        rw [HL.out] at h1
                        exact World.ownsRow.frozenAt h1 _
                      generalize hy : (cat (ps.take m)).getD (U + 4 + q) 0 = y at *
                      have HY : Hid ((cat (ps.take m)).getD (U + 4 + q) 0 = y) := hy
                      have HO1 : Hid (Own w1 w.heap.size (.slice (some ⟨gC, 0, none⟩) (cat (ps.take m)).length cC) (cat (ps.take m)) ∧ wr.grownBy w1 none) := ⟨by rw [HL.out]; exact ho1, hg1⟩
                      clear hy ho1 hf1 hg1 hcell hgC0 hgC1
                      unfold maxLen at hcCm
                      have ht3 : ((U + (4 + P) : Nat) : Int) - (P : Int) = ((U + 4 : Nat) : Int) := by omega
                      have ht4 : ((U + 4 : Nat) : Int) + (q : Int) = ((U + 4 + q : Nat) : Int) := by omega
                      have hIL : U + 4 + q < L := by omega
                      generalize hI : U + 4 + q = I at *
                      have HI : Hid (U + 4 + q = I ∧ q < P) := ⟨hI, hq⟩
                      clear hI
                      generalize U + (4 + P) = E1 at *
                      generalize U + 4 = U4 at ht3 ht4
                      go_wp2_with fail
                      go_region
                      go_wp2_with fail
                      obtain ⟨y1, hy1, hy2⟩ := turn_byte y r hr8
                      rw [hy1]
                      have HQ : Hid (Rd (w1.setCell ⟨gC, I, none⟩ (.int .u8 (y1.toNat : Int))).drew (.slice (some ⟨gC, 0, none⟩) L cC) ((cat (ps.take m)).set I y1) ∧ w.grownBy (w1.setCell ⟨gC, I, none⟩ (.int .u8 (y1.toNat : Int))).drew none) := by
                        refine ⟨?_, gb_none (gb_new (gb_none HG4.out HO1.out.2) (gb_set w1 gC I _) (fun k hk => (HO1.out.1.lt k hk).1)) (gb_drew _ none)⟩
                        have h1 := (HO1.out.1.set I y1).rd.keep (gb_drew _ none)
                        rw [List.length_set, HL.out] at h1
                        exact h1
                      have HFt : Hid (frames ((cat (ps.take m)).set I y1) = ([], 0, 11)) := by
                        have h1 := HY.out
                        rw [HS.out, ← HI.out.1, ← HU.out.1, ← HPl.out] at h1
                        have h2 := turn_frames p0 (cat ((ps.take m).drop 1)) HP.out q (by rw [HPl.out]; exact HI.out.2) y1 (by rw [h1]; exact hy2)
                        rw [HPl.out, HU.out.1, HI.out.1, ← HS.out] at h2
                        exact h2
                      generalize (w1.setCell ⟨gC, I, none⟩ (.int .u8 (y1.toNat : Int))).drew = w3 at *
                      refine (frames_any _ _ w3 HQ.out.1 (HT.out.keep0 HQ.out.2) (by rw [List.length_set, HL.out]; omega)).mono ?_
                      rintro x9 w4 ⟨s9, vals9, hx9, ho9, hel9, -, hg9⟩
                      rw [HFt.out] at hx9 hel9
                      have hx8 : x9 = .returned (.tuple #[s9, .int .i64 0, .int .i64 11]) := hx9
                      obtain ⟨a9, c9, hs9⟩ := ho9.shape
                      have hl9 : vals9.length = 0 := by rw [hel9.1]; rfl
                      rw [hl9] at hs9
                      subst hs9
                      subst hx8
                      have H4 : Hid (w.grownBy w4 none) := gb_none HQ.out.2 hg9
                      clear hx9 ho9 hel9 hg9 hl9 HQ
                      go_wp2_with fail
                      refine (known_any _ (HT.out.keep0 H4.out)).mono ?_
                      rintro e w5 ⟨rfl, hg5⟩
                      have H5 : Hid (Below w.heap.size w w5) := gb_below (gb_none H4.out hg5)
                      clear hg5
                      go_wp2
                      go_ret
                      exact ⟨rfl, H5.out⟩
              | false =>
                go_wp2
                go_loopw [17] (fun i wr' => ∃ k : Nat, k ≤ j ∧ i = .int .i64 (k : Int) ∧ Hid (∃ n, wr' = w2.drewN n)) (fun i _ => j - (intOf i).toNat)
                case atStart => exact ⟨0, by omega, rfl, 0, rfl⟩
                case round =>
                  clear hd1 hd2
                  obtain ⟨k, hk, rfl, hd⟩ := hrel
                  by_cases hkj : k < j
                  · obtain ⟨gM, cM, hsM, -, -, -, hcM⟩ := H2.out.1.form (by intro h; have := H2.out.2.1.1; rw [h] at this; simp at this; omega)
                    simp only [Value.slice.injEq] at hsM
                    obtain ⟨rfl, -, rfl⟩ := hsM
                    have HG4 : Hid (w.grownBy wr none) := by obtain ⟨n4, rfl⟩ := hd.out; exact gb_none H2.out.2.2.1 (gb_drewN _ _ _)
                    obtain ⟨a', c', hv', hml', hcells⟩ := HV.out.keep HG4.out
                    simp only [Value.slice.injEq, true_and] at hv'
                    obtain ⟨rfl, rfl⟩ := hv'
                    obtain ⟨b0, o0, x2, rfl, d2, r2⟩ := hcells k (by omega)
                    have hvl : vals.length = j := by rw [H2.out.2.1.1, List.length_take]; omega
                    have d1 : wr.cell? ⟨gM, k, none⟩ = some (vals.getD k undef) := by obtain ⟨n4, rfl⟩ := hd.out; exact hcM k (by omega)
                    have HR : Hid (Rd wr (vals.getD k undef) (ps.getD k []) ∧ Rd wr x2 (ps.getD k [])) := by
                      refine ⟨?_, r2⟩
                      obtain ⟨n4, rfl⟩ := hd.out
                      have h5 := (H2.out.2.1.2 k (by omega)).rd.keep (gb_drewN w2 n4 none)
                      rw [getD_take _ hkj] at h5
                      exact h5
                    have HD : Hid (∃ n, wr = w2.drewN n) := hd
                    clear r2 hcM hcells hd hvl
                    generalize vals.getD k undef = x1 at *
                    generalize ps.getD k [] = q at *
                    have HS : Hid (∀ n, Calls Tryd.prog 12 #[x1, x2] (wr.drewN n) fun e w' => e = .returned (.bool true) ∧ ∃ m, w' = (wr.drewN n).drewN m) := fun n =>
                      (same_quiet x1 x2 q q (wr.drewN n) (HR.out.1.keep (gb_drewN _ _ _)) (HR.out.2.keep (gb_drewN _ _ _))).mono fun e w' ⟨he, hm⟩ => ⟨by rw [he, decide_eq_true rfl], hm⟩
                    clear HR
                    go_wp2
                    go_quiet ((go_at_call 12; exact Calls.quiet_of (HS.out _)))
                    go_wp2
                    go_roundw
                    case rel => exact ⟨k + 1, by omega, by go_num, by obtain ⟨n4, rfl⟩ := HD.out; exact ⟨_, drewN_two _ _ _⟩⟩
                    case measure => simp [intOf]; omega
                  · have HG4 : Hid (w.grownBy wr none) := by obtain ⟨n4, rfl⟩ := hd.out; exact gb_none H2.out.2.2.1 (gb_drewN _ _ _)
                    have HB4 : Hid (Rd wr (.slice (some ⟨gB, 0, none⟩) L cB) (cat (ps.take m))) := by obtain ⟨n4, rfl⟩ := hd.out; exact H2.out.2.2.2.1.keep (gb_drewN _ _ _)
                    have HE4 : Hid (wr.cell? ⟨gE, 0, none⟩ = some (.int .i64 ((cat (ps.take (0 + 1))).length : Int))) := by obtain ⟨n4, rfl⟩ := hd.out; exact H2.out.2.2.2.2 0 (by omega)
                    clear hd H2
                    obtain ⟨a', c', hv', hml', hcells⟩ := HV.out.keep HG4.out
                    simp only [Value.slice.injEq, true_and] at hv'
                    obtain ⟨rfl, rfl⟩ := hv'
                    obtain ⟨b0, o0, u0, rfl, hc0, hr0⟩ := hcells 0 (by omega)
                    rw [Nat.add_zero] at hc0
                    have HR0 : Hid (Rd wr u0 (ps.getD 0 [])) := hr0
                    obtain ⟨a0, c0, hu0, -, -, -, -⟩ := hr0
                    clear hcells
                    have HP : Hid ((ps.getD 0 []).length ≤ 65536) := HAll.out 0 (by omega)
                    have HS : Hid (cat (ps.take m) = frame (ps.getD 0 []) ++ cat ((ps.take m).drop 1)) := cat_head (by omega) (by omega)
                    have HF1 : Hid (cat (ps.take (0 + 1)) = frame (ps.getD 0 [])) := cat_one (by omega)
                    have hc1 := HE4.out
                    rw [HF1.out, frame_len] at hc1
                    clear HE4 HF1
                    generalize hp0 : ps.getD 0 [] = p0 at *
                    clear hp0
                    subst hu0
                    by_cases hz : p0.length = 0
                    · have hz2 : ((p0.length : Int) == 0) = true := by simp [hz]
                      rw [hz] at hc0
                      clear hz2 hc1
                      go_wp2_with fail
                      refine (known_any _ (HT.out.keep0 HG4.out)).mono ?_
                      rintro e w3 ⟨rfl, hg3⟩
                      have H3 : Hid (Below w.heap.size w w3) := gb_below (gb_none HG4.out hg3)
                      clear hg3
                      go_wp2
                      go_ret
                      exact ⟨rfl, H3.out⟩
                    · have hpl : p0.length ≤ 65536 := HP.out
                      have hzi : ¬ (p0.length : Int) = 0 := by omega
                      have hmb : ((m : Int) == 0) = false := by simp; omega
                      obtain ⟨K, hK, HCn⟩ := count_K bit p0.length wr (by omega) hpl
                      obtain ⟨P, hP⟩ : ∃ P, P = p0.length := ⟨_, rfl⟩
                      have HPl : Hid (p0.length = P) := hP.symm
                      rw [← hP] at hc0 hc1 hzi hpl hK HCn hz
                      clear hP
                      obtain ⟨U, hU⟩ : ∃ U, U = (uv P).length := ⟨_, rfl⟩
                      have HU : Hid ((uv P).length = U ∧ U ≤ 3) := ⟨hU.symm, by rw [hU]; exact uv_le3 hpl⟩
                      rw [← hU] at hc1
                      have hU3 : U ≤ 3 := HU.out.2
                      clear hU
                      have hPb : ((P : Int) == 0) = false := by simp; omega
                      go_wp2_with fail
                      refine HCn.out.mono ?_
                      rintro e w1 ⟨rfl, hw1⟩
                      rw [hw1]
                      clear hw1 w1 HCn
                      go_wp2_with (at_builtin; refine wp_app rfl _ _ rfl w.heap.size _ _ [] (cat (ps.take m)) rfl rfl (Own.nil _ _) HB4.out ?c1 ?c2 ?_)
                      case c1 => have := HL.out; first | omega | (simp; omega)
                      case c2 => have := HG4.out.size; first | omega | (simp; omega)
                      intro v1 w1 ho1 hf1
                      have hg1 : wr.grownBy w1 none := by first | exact hf1.1 | exact (Fr.pre (gb_drew _ none) hf1).1
                      try rw [List.nil_append] at ho1
                      obtain ⟨gC, cC, hv1, hgC0, hgC1, hcC, hcCm, hcell⟩ := ho1.form (cat_ne (by omega) hm)
                      rw [HL.out] at hv1 hcC
                      subst hv1
                      have hc0' := cell_keep hc0 hg1
                      have hc1' := cell_keep hc1 hg1
                      clear hc0 hc1
                      have ht1 : (K : Int).tdiv 8 = ((K / 8 : Nat) : Int) := by rw [Int.tdiv_eq_ediv_of_nonneg (by omega)]; omega
                      have ht2 : (K : Int).tmod 8 = ((K % 8 : Nat) : Int) := by rw [Int.tmod_eq_emod_of_nonneg (by omega)]; omega
                      have hq : K / 8 < P := by omega
                      have hr8 : K % 8 < 8 := by omega
                      generalize K / 8 = q at *
                      generalize K % 8 = r at *
                      have hLe : U + 4 + P ≤ L := by have h7 := congrArg List.length HS.out; rw [List.length_append, frame_len, HPl.out, HU.out.1, HL.out] at h7; omega
                      have hci := hcell (U + 4 + q) (by rw [HL.out]; omega)
                      have hcf : w1.frozen? ⟨gC, U + 4 + q, none⟩ = false := by
                        have h1 := ho1
                        unfold Own at h1
                        rw [HL.out] at h1
                        exact World.ownsRow.frozenAt h1 _
                      generalize hy : (cat (ps.take m)).getD (U + 4 + q) 0 = y at *
                      have HY : Hid ((cat (ps.take m)).getD (U + 4 + q) 0 = y) := hy
                      have HO1 : Hid (Own w1 w.heap.size (.slice (some ⟨gC, 0, none⟩) (cat (ps.take m)).length cC) (cat (ps.take m)) ∧ wr.grownBy w1 none) := ⟨by rw [HL.out]; exact ho1, hg1⟩
                      clear hy ho1 hf1 hg1 hcell hgC0 hgC1
                      unfold maxLen at hcCm
                      have ht3 : ((U + (4 + P) : Nat) : Int) - (P : Int) = ((U + 4 : Nat) : Int) := by omega
                      have ht4 : ((U + 4 : Nat) : Int) + (q : Int) = ((U + 4 + q : Nat) : Int) := by omega
                      have hIL : U + 4 + q < L := by omega
                      generalize hI : U + 4 + q = I at *
                      have HI : Hid (U + 4 + q = I ∧ q < P) := ⟨hI, hq⟩
                      clear hI
                      generalize U + (4 + P) = E1 at *
                      generalize U + 4 = U4 at ht3 ht4
                      go_wp2_with fail
                      go_region
                      go_wp2_with fail
                      obtain ⟨y1, hy1, hy2⟩ := turn_byte y r hr8
                      rw [hy1]
                      have HQ : Hid (Rd (w1.setCell ⟨gC, I, none⟩ (.int .u8 (y1.toNat : Int))).drew (.slice (some ⟨gC, 0, none⟩) L cC) ((cat (ps.take m)).set I y1) ∧ w.grownBy (w1.setCell ⟨gC, I, none⟩ (.int .u8 (y1.toNat : Int))).drew none) := by
                        refine ⟨?_, gb_none (gb_new (gb_none HG4.out HO1.out.2) (gb_set w1 gC I _) (fun k hk => (HO1.out.1.lt k hk).1)) (gb_drew _ none)⟩
                        have h1 := (HO1.out.1.set I y1).rd.keep (gb_drew _ none)
                        rw [List.length_set, HL.out] at h1
                        exact h1
                      have HFt : Hid (frames ((cat (ps.take m)).set I y1) = ([], 0, 11)) := by
                        have h1 := HY.out
                        rw [HS.out, ← HI.out.1, ← HU.out.1, ← HPl.out] at h1
                        have h2 := turn_frames p0 (cat ((ps.take m).drop 1)) HP.out q (by rw [HPl.out]; exact HI.out.2) y1 (by rw [h1]; exact hy2)
                        rw [HPl.out, HU.out.1, HI.out.1, ← HS.out] at h2
                        exact h2
                      generalize (w1.setCell ⟨gC, I, none⟩ (.int .u8 (y1.toNat : Int))).drew = w3 at *
                      refine (frames_any _ _ w3 HQ.out.1 (HT.out.keep0 HQ.out.2) (by rw [List.length_set, HL.out]; omega)).mono ?_
                      rintro x9 w4 ⟨s9, vals9, hx9, ho9, hel9, -, hg9⟩
                      rw [HFt.out] at hx9 hel9
                      have hx8 : x9 = .returned (.tuple #[s9, .int .i64 0, .int .i64 11]) := hx9
                      obtain ⟨a9, c9, hs9⟩ := ho9.shape
                      have hl9 : vals9.length = 0 := by rw [hel9.1]; rfl
                      rw [hl9] at hs9
                      subst hs9
                      subst hx8
                      have H4 : Hid (w.grownBy w4 none) := gb_none HQ.out.2 hg9
                      clear hx9 ho9 hel9 hg9 hl9 HQ
                      go_wp2_with fail
                      refine (known_any _ (HT.out.keep0 H4.out)).mono ?_
                      rintro e w5 ⟨rfl, hg5⟩
                      have H5 : Hid (Below w.heap.size w w5) := gb_below (gb_none H4.out hg5)
                      clear hg5
                      go_wp2
                      go_ret
                      exact ⟨rfl, H5.out⟩

theorem torn_contract (H : Type) (enc : TypeId × Value → H) (W : World) (base : Nat) (args : Array Value) (ds gs : List (DataW H)) (before : List MemPlace)
    (hval : ∀ (j : Nat) t v, Tryd.f8.params[j]? = some t → args[j]? = some v → Value.okWide Tryd.prog W .any base t v)
    (hW : DataW.Whole enc Tryd.prog Tryd.f8.params.toList Rows.vintTornSpec.vars false W args.toList ds gs before) (hL : laidMetH Tryd.prog Rows.vintTornRow.laid W) (hk : (DataW.weightsEach Tryd.prog (Tryd.f8.params.toList ++ (OpenSpec.ofChange Rows.vintTornSpec).bare.plain.varTypes Tryd.prog) (ds ++ gs)).all (· ≤ reachBytes) = true) :
    Calls Tryd.prog 8 args W fun e W' => ∃ v, e = .returned v ∧ Rows.vintTornSpec.post enc Tryd.prog Tryd.f8 false true false false W args v W' := by
  have hW' := hW
  obtain ⟨p, q, hA0, hV, rfl, hfz, hnd⟩ := hW
  have hA : DataW.TrodAll enc Tryd.prog W 0 (fun _ => true) true Tryd.f8.params.toList args.toList ds p := hA0
  rw [Tryd.params8] at hA hval hk
  obtain ⟨v0, vs0, d0, ds0, p0, q0, hargs, rfl, rfl, h0, r0⟩ := trodAll_cons hA
  obtain ⟨v1, vs1, d1, ds1, p1, q1, rfl, rfl, rfl, h1, r1⟩ := trodAll_cons r0
  obtain ⟨v2, vs2, d2, ds2, p2, q2, rfl, rfl, rfl, h2, r2⟩ := trodAll_cons r1
  obtain ⟨rfl, rfl, rfl⟩ := trodAll_nil r2
  obtain rfl : args = #[v0, v1, v2] := by cases args; simp_all
  obtain ⟨rfl, rfl⟩ := trodVars_none hV
  obtain ⟨l0, o0⟩ := open_ll (hval 0 48 v0 rfl rfl) h0
  obtain ⟨z1, rfl, rfl, rfl, wz1⟩ := open_int Tryd.underlying3 (hval 1 3 v1 rfl rfl) h1
  obtain ⟨z2, rfl, rfl, rfl, wz2⟩ := open_int Tryd.underlying3 (hval 2 3 v2 rfl rfl) h2
  clear hA0
  refine (torn_walk v0 _ z1 z2 W o0 (tab_of hL)).mono fun e W' ⟨he, bel⟩ => ?_
  subst he
  exact ⟨_, rfl, _, _, _, [], _, [], hW', trodAll_mk1 (shut_bool Tryd.underlying4 _), (trodAll_cons_mk (back_ll h0 bel) (trodAll_cons_mk (shut_int Tryd.underlying3 wz1) (trodAll_cons_mk (shut_int Tryd.underlying3 wz2) trodAll_mk0))), rfl, bel.frame _, fun h => by cases h⟩

theorem torn_met (os : Os) : laidMet Tryd.prog Rows.vintTornRow.laid ((laidWorld os).forCall (fun _ _ => 0) ⟨#[], #[.slice none 0 0, .int .i64 0, .int .i64 0], []⟩).memory :=
  laidMet_of_run' 8 (by kernel_rfl) (by kernel_rfl)
theorem torn_reads (os : Os) {H : Type} (enc : TypeId × Value → H) : ∃ places, DataW.whole enc Tryd.prog ((laidWorld os).forCall (fun _ _ => 0) ⟨#[], #[.slice none 0 0, .int .i64 0, .int .i64 0], []⟩).memory Tryd.f8.params.toList Rows.vintTornSpec.vars false #[Value.slice none 0 0, Value.int .i64 0, Value.int .i64 0].toList 8 = some ([.nil, .lit (.int .i64 0), .lit (.int .i64 0)], [], places) :=
  ⟨[], by kernel_rfl⟩

set_option maxRecDepth 100000 in
theorem torn_lifted (os : Os) (started : os.Started) (H : Type) (enc : TypeId × Value → H) (F : Stop.Interp) :
    ReturnsInHanded {} Tryd.checked os 8 .any ((OpenSpec.ofChange Rows.vintTornSpec).preRow enc Tryd.prog Tryd.f8 Rows.vintTornRow.domain false Rows.vintTornRow.laid) (((OpenSpec.ofChange Rows.vintTornSpec).at F).post enc Tryd.prog Tryd.f8 false true false false) := by
  obtain ⟨places, hx⟩ := torn_reads os enc
  refine returnsInHanded_of_row (C := Tryd.checked) (s := (OpenSpec.ofChange Rows.vintTornSpec)) own started (by kernel_rfl) Tryd.func8
    (witness_row_at (enc := enc) (C := Tryd.checked) false (laidWorld os) #[.slice none 0 0, .int .i64 0, .int .i64 0] rfl (by kernel_rfl) (by kernel_rfl) (by kernel_rfl)
      (OpenSpec.preRow_of_cond 8 hx (by kernel_rfl) (fun k hk => by cases hk) (by kernel_rfl) (torn_met os))) ?_
  intro W base args ds gs before hval hW _ _ hsz hL _ _
  exact torn_contract H enc W base args ds gs before hval hW hL hsz

theorem torn_said : Rows.VintTornSaid :=
  OpenClaim.holds_of_cond 8 Tryd.f8 rfl rfl rfl rfl rfl rfl rfl ⟨rfl, rfl, rfl, rfl, rfl⟩ rfl rfl rfl rfl rfl (by kernel_rfl) Tryd.func8 (by kernel_rfl)
    (of_decide_eq_true (by kernel_rfl)) (by unfold Func.isWrapper; first | (rw [if_pos (by decide +kernel)]; kernel_rfl) | (rw [if_neg (by decide +kernel)]; exact ⟨rfl, rfl⟩))
    (fun os started H enc _ F => by rw [OpenClaim.pre_eq_preRow]; exact torn_lifted os started H enc F)

theorem torn_inuint8 : Tryd.prog.wantsStandIn 48 = false := by kernel_rfl
theorem torn_inint : Tryd.prog.wantsStandIn 3 = false := by kernel_rfl
theorem torn_plain (f : FuncId) (fn : Func) (hf : Tryd.pinned.checked.prog.funcNamed "tocsin/tocsinlaw01.VintTorn" = some f) (hfn : Tryd.pinned.checked.prog.funcs[f]? = some fn) :
    false = Tryd.pinned.checked.prog.looks [] ∧ ∀ (j : Nat) t, fn.params[j]? = some t → Tryd.pinned.checked.prog.wantsStandIn t = false := by
  obtain rfl : f = 8 := Option.some.inj ((show Tryd.prog.funcNamed "tocsin/tocsinlaw01.VintTorn" = some 8 by kernel_rfl).symm.trans hf) |>.symm
  obtain rfl : fn = Tryd.f8 := (Option.some.inj (Tryd.func8.symm.trans hfn)).symm
  refine ⟨by kernel_rfl, fun j t ht => ?_⟩
  rw [Tryd.params8] at ht
  have hm := Array.mem_of_getElem? ht
  simp only [List.mem_toArray, List.mem_cons, List.not_mem_nil, or_false] at hm
  rcases hm with rfl | rfl | rfl
  · exact torn_inuint8
  · exact torn_inint
  · exact torn_inint

/-- THE STATEMENT -/
theorem vintTorn_holds : Rows.VintTornCardSaid :=
  Claim7.holds_tied_plain_at .later [] _ _ _ _ torn_said (fun _ h => by cases h) (by kernel_rfl) (fun _ h => by cases h) vintTorn_row_tie rfl ⟨rfl, rfl⟩ (by kernel_rfl) rfl torn_plain (by kernel_rfl)
end Go.Proofs.YtgbpnkamamafjaaDoor
