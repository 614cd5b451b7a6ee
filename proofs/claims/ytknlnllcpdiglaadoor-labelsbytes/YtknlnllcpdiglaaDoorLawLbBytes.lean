/-
  LabelsBytes: label sets as bytes, and label sets read from bytes: the walk.
-/
import Derived.Test.YtknlnllcpdiglaaDoorVmE
import Derived.Test.YtknlnllcpdiglaaDoorLbBq
import Derived.Test.YtknlnllcpdiglaaDoorLbA7
namespace Go.Proofs.YtknlnllcpdiglaaDoor
open Go.RowKit

theorem ownB_set {w : World} {base g cap : Nat} {l : List UInt8} (h : Own w base (.slice (some ⟨g, 0, none⟩) l.length cap) l) (j : Nat) (b : UInt8) : Own (w.setCell ⟨g, j, none⟩ (.int .u8 (b.toNat : Int))) base (.slice (some ⟨g, 0, none⟩) (l.set j b).length cap) (l.set j b) := by
  have := World.ownsRow.stored h j (bv b)
  unfold Own
  rw [List.length_set, List.map_set]
  exact this.1
theorem gbB_set (w : World) (g j : Nat) (u : Value) : w.grownBy (w.setCell ⟨g, j, none⟩ u) (some g) :=
  ⟨rfl, rfl, rfl, by simp, fun k _ hk => Below.heap_setCell _ _ _ _ (fun e => hk (by rw [e]))⟩
/-- bytes with a mark behind them -/
theorem markB {w : World} {base k cap : Nat} {l : List UInt8} (h : Own w base (.slice (some ⟨k, 0, none⟩) (l.length + 1) cap) (l ++ [77])) : Rd w (.slice (some ⟨k, 0, none⟩) l.length cap) l ∧ w.cell? ⟨k, l.length, none⟩ = some (.int .u8 77) := by
  obtain ⟨k', cap', hv2, hk0, hk1, hcap, hcm, hcell⟩ := h.form (by simp)
  simp only [Value.slice.injEq, Option.some.injEq, Addr.mk.injEq, and_true] at hv2
  obtain ⟨rfl, -, rfl⟩ := hv2
  have hlen1 : (l ++ [77]).length = l.length + 1 := by simp
  refine ⟨⟨_, _, rfl, by omega, hcm, fun j hj => ⟨k, 0, rfl, ?_⟩, fun h => by cases h⟩, ?_⟩
  · rw [Nat.zero_add, hcell j (by rw [hlen1]; omega)]
    have e : (l ++ [77]).getD j 0 = l.getD j 0 := by simp only [List.getD, List.getElem?_append_left hj]
    rw [e]
  · rw [hcell l.length (by rw [hlen1]; omega)]
    simp

set_option maxRecDepth 8000 in
set_option maxHeartbeats 6400000 in
theorem lbBytes_walk (w : World) (vb : Value) (l : List UInt8) (p : Int) (v : Value) (ls : List LbT) (hb : Rd w vb l) (hlb : l.length ≤ 140737488351232) (hv : RdL w v ls) (hl : LbIn ls) (hll : ls.length ≤ 4398046511104) (hT : U8S w) :
    Calls Tryd.prog 8 #[vb, .int .i64 p, v] w fun e w' => e = .returned (.bool true) ∧ Below w.heap.size w w' := by
  have HV : Hid (RdL w v ls ∧ LbIn ls ∧ ls.length ≤ 4398046511104 ∧ U8S w ∧ Rd w vb l) := ⟨hv, hl, hll, hT, hb⟩
  obtain ⟨a, c, rfl⟩ : ∃ a c, v = .slice a ls.length c := by obtain ⟨a, c, h, _⟩ := hv; exact ⟨a, c, h⟩
  obtain ⟨ba, bc, rfl, -, -, -, -⟩ := hb
  clear hv hl hT hll
  have HP : Hid (∀ W k cap g gc base, Rd W (.slice (some ⟨k, 0, none⟩) l.length cap) l → LentL W base g gc ls → w.grownBy W none → Calls Tryd.prog 37 #[.slice (some ⟨k, 0, none⟩) l.length cap, .slice (some ⟨g, 0, none⟩) ls.length gc] W fun e w' => ∃ v', e = .returned (.tuple #[v', .int .i64 (putS l ls).2]) ∧ Own w' W.heap.size v' (putS l ls).1 ∧ W.grownBy w' none) := fun W k cap g gc base h1 h2 hg => put_any W _ _ l ls h1 (by omega) h2.rd.1 HV.out.2.1 (HV.out.2.2.2.1.keep hg)
  have HRP : Hid (∀ W, w.grownBy W none → Calls Tryd.prog 38 #[.slice ba l.length bc, .slice a ls.length c] W fun e w' => ∃ v', e = .returned (.tuple #[v', .int .i64 (putS l ls).2]) ∧ Own w' W.heap.size v' (putS l ls).1 ∧ W.grownBy w' none) := fun W hg => refPut_any W _ _ l ls (HV.out.2.2.2.2.keep hg) (by omega) (HV.out.1.keep hg) HV.out.2.1
  have HD : Hid (∀ W k cap, Rd W (.slice (some ⟨k, 0, none⟩) l.length cap) l → w.grownBy W none → Calls Tryd.prog 39 #[.slice (some ⟨k, 0, none⟩) l.length cap, .int .i64 p] W fun e w' => ∃ v', e = .returned (.tuple #[v', .int .i64 (readS l p).2.1, .int .i64 (readS l p).2.2]) ∧ OwnL w' W.heap.size v' (readS l p).1 ∧ W.grownBy w' none) := fun W k cap h1 hg => read_any W _ l p h1 (by omega) (HV.out.2.2.2.1.keep hg)
  have HRD : Hid (∀ W, w.grownBy W none → Calls Tryd.prog 40 #[.slice ba l.length bc, .int .i64 p] W fun e w' => ∃ v', e = .returned (.tuple #[v', .int .i64 (readS l p).2.1, .int .i64 (readS l p).2.2]) ∧ OwnL w' W.heap.size v' (readS l p).1 ∧ W.grownBy w' none) := fun W hg => refRead_any W _ l p (HV.out.2.2.2.2.keep hg) (by omega)
  generalize putS l ls = X at *
  generalize readS l p = R at *
  obtain ⟨X, E⟩ := X
  obtain ⟨S, P, F⟩ := R
  dsimp only at *
  have hl2 : (l.length : Int) ≤ 140737488351232 := by omega
  go_enter Tryd.func8, Tryd.ntmps8
  go_wp2_with (at_builtin; refine wp_app rfl _ _ rfl w.heap.size _ _ [] l rfl rfl (Own.nil _ _) HV.out.2.2.2.2 (by simp; omega) (by omega) ?_)
  intro v1 w1 ho1 hf1
  have H1 : Hid (Own w1 w.heap.size v1 l ∧ w.grownBy w1 none) := ⟨by simpa using ho1, hf1.1⟩
  clear ho1 hf1
  go_wp2_with (at_builtin; refine wp_app rfl _ _ rfl w.heap.size _ _ l [77] rfl rfl (H1.out.1.keep (alloc_gb _ _)) (Rd_lit _ [77] 1 rfl (by simp) _ rfl) (by simp; omega) (by have := H1.out.2.size; simp; omega) ?_)
  intro v2 w2 ho2 hf2
  have H2 : Hid (Own w2 w.heap.size v2 (l ++ [77]) ∧ w.grownBy w2 none) := ⟨ho2, gb_new H1.out.2 (Fr.pre (alloc_gb _ _) hf2).1 (fun k hk => (H1.out.1.lt k hk).1)⟩
  clear ho2 hf2 H1
  obtain ⟨k, cap, hv2, hk0, hk1, hcap, hcm, hcell⟩ := H2.out.1.form (by simp)
  subst hv2
  have hlen1 : (l ++ [77]).length = l.length + 1 := by simp
  rw [hlen1] at hcap H2
  rw [hlen1]
  have HK : Hid (w.heap.size ≤ k ∧ k < w2.heap.size) := ⟨hk0, hk1⟩
  have hle : l.length ≤ cap := by omega
  clear hcell hlen1 hk0 hk1
  unfold maxLen at hcm
  go_wp2_with fail
  refine (lentL_any _ _ ls (HV.out.1.keep H2.out.2) HV.out.2.2.1).mono ?_
  rintro e w3 ⟨g, gc, rfl, ho3, hg3⟩
  have H3 : Hid (LentL w3 w2.heap.size g gc ls ∧ w.grownBy w3 none ∧ Own w3 w.heap.size (.slice (some ⟨k, 0, none⟩) (l.length + 1) cap) (l ++ [77])) := ⟨ho3, gb_none H2.out.2 hg3, H2.out.1.keep hg3⟩
  have HK3 : Hid (w.heap.size ≤ k ∧ k < w3.heap.size) := ⟨HK.out.1, Nat.lt_of_lt_of_le HK.out.2 hg3.size⟩
  clear ho3 hg3 H2 HK
  go_wp2_with fail
  refine (HP.out _ k cap g gc _ (markB H3.out.2.2).1 H3.out.1 H3.out.2.1).mono ?_
  rintro e w4 ⟨vx, rfl, hox, hg4⟩
  have H4 : Hid (LentL w4 w2.heap.size g gc ls ∧ w.grownBy w4 none ∧ Own w4 w.heap.size (.slice (some ⟨k, 0, none⟩) (l.length + 1) cap) (l ++ [77]) ∧ Own w4 w3.heap.size vx X) := ⟨OwnL.keep H3.out.1 hg4, gb_none H3.out.2.1 hg4, H3.out.2.2.keep hg4, hox⟩
  clear hox hg4 H3 HP
  go_wp2_with fail
  refine (HRP.out _ H4.out.2.1).mono ?_
  rintro e w5 ⟨vy, rfl, hoy, hg5⟩
  have H5 : Hid (LentL w5 w2.heap.size g gc ls ∧ w.grownBy w5 none ∧ Own w5 w.heap.size (.slice (some ⟨k, 0, none⟩) (l.length + 1) cap) (l ++ [77]) ∧ Own w5 w3.heap.size vx X ∧ Own w5 w4.heap.size vy X) := ⟨OwnL.keep H4.out.1 hg5, gb_none H4.out.2.1 hg5, H4.out.2.2.1.keep hg5, H4.out.2.2.2.keep hg5, hoy⟩
  clear hoy hg5 H4 HRP
  go_wp2_with fail
  refine (HD.out _ k cap (markB H5.out.2.2.1).1 H5.out.2.1).mono ?_
  rintro e w6 ⟨vm, rfl, hom, hg6⟩
  have H6 : Hid (LentL w6 w2.heap.size g gc ls ∧ w.grownBy w6 none ∧ Own w6 w.heap.size (.slice (some ⟨k, 0, none⟩) (l.length + 1) cap) (l ++ [77]) ∧ Own w6 w3.heap.size vx X ∧ Own w6 w4.heap.size vy X ∧ OwnL w6 w5.heap.size vm S) := ⟨OwnL.keep H5.out.1 hg6, gb_none H5.out.2.1 hg6, H5.out.2.2.1.keep hg6, H5.out.2.2.2.1.keep hg6, H5.out.2.2.2.2.keep hg6, hom⟩
  clear hom hg6 H5 HD
  go_wp2_with fail
  refine (HRD.out _ H6.out.2.1).mono ?_
  rintro e w7 ⟨vk, rfl, hok, hg7⟩
  have H7 : Hid (LentL w7 w2.heap.size g gc ls ∧ w.grownBy w7 none ∧ Own w7 w.heap.size (.slice (some ⟨k, 0, none⟩) (l.length + 1) cap) (l ++ [77]) ∧ Own w7 w3.heap.size vx X ∧ Own w7 w4.heap.size vy X ∧ OwnL w7 w5.heap.size vm S ∧ OwnL w7 w6.heap.size vk S) := ⟨OwnL.keep H6.out.1 hg7, gb_none H6.out.2.1 hg7, H6.out.2.2.1.keep hg7, H6.out.2.2.2.1.keep hg7, H6.out.2.2.2.2.1.keep hg7, H6.out.2.2.2.2.2.keep hg7, hok⟩
  clear hok hg7 H6 HRD
  have cx := run_strU H7.out.2.2.2.1.rd
  have cy := run_strU H7.out.2.2.2.2.1.rd
  generalize ByteArray.mk ⟨X⟩ = sx at cx cy
  have qx : (sx.toList == sx.toList) = true := by simp
  have HSame : Hid (∀ W u1 u2, RdL W u1 S → RdL W u2 S → Calls Tryd.prog 20 #[u1, u2] W fun e w' => e = .returned (.bool true) ∧ W.grownBy w' none) := fun W u1 u2 h1 h2 => by
    have := sameL_any W u1 u2 S S h1 h2
    rwa [decide_eq_true rfl] at this
  go_wp2_with fail
  refine (HSame.out _ _ _ H7.out.2.2.2.2.2.1.rd H7.out.2.2.2.2.2.2.rd).mono ?_
  rintro e w8 ⟨rfl, hg8⟩
  have H8 : Hid (LentL w8 w2.heap.size g gc ls ∧ w.grownBy w8 none ∧ Own w8 w.heap.size (.slice (some ⟨k, 0, none⟩) (l.length + 1) cap) (l ++ [77]) ∧ Own w8 w3.heap.size vx X) := ⟨OwnL.keep H7.out.1 hg8, gb_none H7.out.2.1 hg8, H7.out.2.2.1.keep hg8, H7.out.2.2.2.1.keep hg8⟩
  clear hg8 H7 HSame cx cy
  go_wp2_with fail
  refine (keptL_any _ _ g gc _ ls H8.out.1 (HV.out.1.keep H8.out.2.1)).mono ?_
  rintro e w9 ⟨rfl, hg9⟩
  have H9 : Hid (w.grownBy w9 none ∧ Own w9 w.heap.size (.slice (some ⟨k, 0, none⟩) (l.length + 1) cap) (l ++ [77]) ∧ Own w9 w3.heap.size vx X) := ⟨gb_none H8.out.2.1 hg9, H8.out.2.2.1.keep hg9, H8.out.2.2.2.keep hg9⟩
  clear hg9 H8
  have H9d : Hid (w.grownBy w9.drew none ∧ Own w9.drew w.heap.size (.slice (some ⟨k, 0, none⟩) (l.length + 1) cap) (l ++ [77]) ∧ Own w9.drew w3.heap.size vx X) := ⟨gb_none H9.out.1 (gb_drew _ none), H9.out.2.1.keep (gb_drew _ none), H9.out.2.2.keep (gb_drew _ none)⟩
  clear H9
  have cb := run_strU (HV.out.2.2.2.2.keep H9d.out.1)
  have co := run_strU (markB H9d.out.2.1).1
  have c77 := (markB H9d.out.2.1).2
  generalize ByteArray.mk ⟨l⟩ = sb at cb co
  have qb : (sb.toList == sb.toList) = true := by simp
  have HXL : Hid (∃ xa xc, vx = .slice xa X.length xc) := H9d.out.2.2.shape
  obtain ⟨xa, xc, rfl⟩ := HXL.out
  clear HXL
  generalize hN : X.length = n at *
  have HN : Hid (X.length = n) := hN
  clear hN
  have hnn : n ≤ 9223372036854775807 := by
    have h := H9d.out.2.2.rd.le
    rw [HN.out] at h
    unfold maxLen at h
    omega
  go_wp2_with fail
  go_region
  clear cb co c77
  go_wp2
  go_loopw [110] (fun i wr => ∃ z : Nat, z ≤ n ∧ i = .int .i64 (z : Int) ∧ Hid (∃ m : List UInt8, m.length = n ∧ Own wr w3.heap.size (.slice xa n xc) m ∧ w.grownBy wr none ∧ Own wr w.heap.size (.slice (some ⟨k, 0, none⟩) (l.length + 1) cap) (l ++ [77]))) (fun i _ => n - (intOf i).toNat)
  case atStart => exact ⟨0, by omega, rfl, X, HN.out, H9d.out.2.2, H9d.out.1, H9d.out.2.1⟩
  case round =>
    obtain ⟨z, hzn, rfl, hr⟩ := hrel
    obtain ⟨m, hm, ho, hg, hw⟩ := hr.out
    clear hr H9d
    by_cases hzl : z < n
    · have H : Hid (m.length = n ∧ Own wr w3.heap.size (.slice xa n xc) m ∧ w.grownBy wr none ∧ Own wr w.heap.size (.slice (some ⟨k, 0, none⟩) (l.length + 1) cap) (l ++ [77])) := ⟨hm, ho, hg, hw⟩
      clear hm ho hg hw
      obtain ⟨gx, capx, he, hg0, hg1, hcapx, hcmx, hcell⟩ := H.out.2.1.form (by intro h; have := H.out.1; rw [h] at this; simp at this; omega)
      simp only [Value.slice.injEq] at he
      obtain ⟨rfl, -, rfl⟩ := he
      have hc := hcell z (by rw [H.out.1]; exact hzl)
      have hf : wr.frozen? ⟨gx, z, none⟩ = false := by
        have h1 := H.out.2.1
        unfold Own at h1
        rw [H.out.1] at h1
        exact World.ownsRow.frozenAt h1 z
      have hst : Hid (∃ m' : List UInt8, m'.length = n ∧ Own (wr.setCell ⟨gx, z, none⟩ (.int .u8 99)) w3.heap.size (.slice (some ⟨gx, 0, none⟩) n xc) m' ∧ w.grownBy (wr.setCell ⟨gx, z, none⟩ (.int .u8 99)) none ∧ Own (wr.setCell ⟨gx, z, none⟩ (.int .u8 99)) w.heap.size (.slice (some ⟨k, 0, none⟩) (l.length + 1) cap) (l ++ [77])) := by
        refine ⟨m.set z 99, by rw [List.length_set]; exact H.out.1, ?_, gb_new H.out.2.2.1 (gbB_set _ _ _ _) (fun j hj => ?_), Own.kept H.out.2.2.2 (gbB_set _ _ _ _) (.inr ?_)⟩
        · have h1 := H.out.2.1
          rw [← H.out.1] at h1
          have h2 := ownB_set h1 z 99
          rwa [List.length_set, H.out.1] at h2
        · cases hj
          have := HK3.out
          omega
        · have := HK3.out
          simp [Value.ownBlock]
          omega
      clear hcell H hg0 hg1 hcapx hcmx
      generalize (m.getD z 0).toNat = b1 at *
      go_wp2
      go_roundw
      case rel => exact ⟨z + 1, by omega, by go_num, hst⟩
      case measure => simp [intOf]; omega
    · have H : Hid (w.grownBy wr none ∧ Own wr w.heap.size (.slice (some ⟨k, 0, none⟩) (l.length + 1) cap) (l ++ [77])) := ⟨hg, hw⟩
      clear hm ho hg hw
      have hzi : ¬ (z : Int) < (n : Int) := by omega
      have HA : Hid (∀ W, wr.grownBy W none → Calls Tryd.prog 17 #[] W fun e w' => e = .returned (.bool true) ∧ W.grownBy w' none) := fun W hW => awakeL_any _ (HV.out.2.2.2.1.keep (gb_none H.out.1 hW))
      have Hd : Hid (w.grownBy wr.drew none ∧ Own wr.drew w.heap.size (.slice (some ⟨k, 0, none⟩) (l.length + 1) cap) (l ++ [77])) := ⟨gb_none H.out.1 (gb_drew _ none), H.out.2.keep (gb_drew _ none)⟩
      have cb := run_strU (HV.out.2.2.2.2.keep Hd.out.1)
      have co := run_strU (markB Hd.out.2).1
      generalize ByteArray.mk ⟨l⟩ = sb2 at cb co
      have qb2 : (sb2.toList == sb2.toList) = true := by simp
      go_wp2_with fail
      go_region_with (go_at_call 17; refine (HA.out _ (gb_drew _ none)).mono ?_; rintro e wf ⟨rfl, hgf⟩; have HF : Hid (Below w.heap.size w wf) := gb_below (gb_none Hd.out.1 hgf); clear hgf)
      all_goals go_wp2
      all_goals go_ret
      all_goals exact ⟨rfl, HF.out⟩
end Go.Proofs.YtknlnllcpdiglaaDoor
