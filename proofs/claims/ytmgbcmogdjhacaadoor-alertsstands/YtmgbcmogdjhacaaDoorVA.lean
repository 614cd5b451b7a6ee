/-
  Ala, Alb, in one text.
-/
import Derived.Test.YtmgbcmogdjhacaaDoorAl9
/- Ala -/
namespace Go.Proofs.YtmgbcmogdjhacaaDoor
open Go.RowKit Go.Shelf Go.Sort Go.Maps Go.WideMaps

set_option maxRecDepth 8000 in
set_option maxHeartbeats 12800000 in
theorem keys_any (w : World) (S : Nat → Prop) (gx : Nat) (R most : Int) (M : List AlR) (gm : Nat) (D : DataW Unit) (hv : List LbT → Value) (h : PrjA w S gx R most M gm D hv) (hS : ∀ k, S k → k < w.heap.size) :
    Calls Tryd.prog 23 #[.map (some gm), .func (.func 24) #[] #[]] w fun e w' => ∃ g c, e = .returned (.slice (some ⟨g, 0, none⟩) M.length c) ∧ OwnK M w' w.heap.size (.slice (some ⟨g, 0, none⟩) M.length c) M ∧ w.grownBy w' none := by
  have HD := hidJ h
  have HSS := hidJ hS
  have hbl := h.mp.lt
  have hlenI := h.ok.2.2.2
  obtain ⟨N, hN⟩ : ∃ N, N = M.length := ⟨_, rfl⟩
  have hmost : N ≤ 500 := by omega
  have HN : Hid (M.length = N) := hN.symm
  rw [← hN]
  obtain ⟨i0, hi, hz0, hz1, hz2⟩ := info_parts infoStr
  -- the two boxes
  obtain ⟨W0, hW0⟩ : ∃ W0, W0 = (w.alloc (.cells #[.map (some gm)] 59)).alloc (.cells #[.func (.func 24) #[] #[]] 66) := ⟨_, rfl⟩
  have hg0 : w.grownBy W0 none := by rw [hW0]; exact gb_none (World.grownBy_alloc _ _ none) (World.grownBy_alloc _ _ none)
  have hz : W0.heap.size = w.heap.size + 2 := by rw [hW0]; simp
  have b2 : W0.cell? ⟨w.heap.size, 0, none⟩ = some (.map (some gm)) := by
    rw [hW0]
    have := (Boxed.new w 59 (.map (some gm))).alloc (.cells #[.func (.func 24) #[] #[]] 66)
    exact this.cell
  have b3 : W0.cell? ⟨w.heap.size + 1, 0, none⟩ = some (.func (.func 24) #[] #[]) := by
    rw [hW0]
    have := (Boxed.new (w.alloc (.cells #[.map (some gm)] 59)) 66 (.func (.func 24) #[] #[])).cell
    rw [World.size_alloc] at this
    exact this
  have HB : Hid (w.grownBy W0 none ∧ W0.heap.size = w.heap.size + 2 ∧ W0.cell? ⟨w.heap.size, 0, none⟩ = some (.map (some gm)) ∧ W0.cell? ⟨w.heap.size + 1, 0, none⟩ = some (.func (.func 24) #[] #[])) := ⟨hg0, hz, b2, b3⟩
  have hmap := (h.keep hg0).mp
  have HSz : Hid (Maps.size D = N) := by rw [hN]; exact h.size
  rw [← hN] at hmap
  have hW0' := hW0.symm
  clear h hN hS hlenI hg0 hz b3 hW0
  go_enter Tryd.func23, Tryd.ntmps23
  go_wp2_with (first
    | (at_len; refine wpList_len_own _ rfl _ 59 rfl 9 34 Tryd.underlying59 _ gm N D rfl hmap ?_; rw [HSz.out])
    | (at_make; refine wpList_make_own _ rfl _ _ 64 rfl W0.heap.size 9 i0 (.string ⟨#[]⟩) 1 Tryd.underlying64 hi hz0 hz1 _ _ _ N rfl rfl rfl (by rw [hz2]; omega) (by unfold maxLen; omega) (Nat.le_refl _) ?_; intro w1 hrow1 hg1; have hc1 := cell_keep b2 hg1)
    | (at_range; refine wpList_range_own _ rfl _ 59 rfl 9 34 lawS Tryd.underlying59 _ gm N D rfl (hmap.kept hg1 (by simp)) ?_; intro w2 hrg2 hg2 hs2)
    | go_in)
  go_frame
  have HR2 : Hid (w2.ranges Tryd.prog 9 alElem gm w1.heap.size N D (Maps.has D) (Maps.size D) ∧ w1.grownBy w2 none ∧ W0.grownBy w1 none ∧ w1.ownsRow W0.heap.size 9 1 (.slice (some ⟨W0.heap.size, 0, none⟩) 0 N) 0 []) := ⟨hrg2, hg2, hg1, hrow1⟩
  clear hrg2 hg2 hs2 hrow1 hg1 hc1 hmap b2 hW0'
  go_loopw [5] (fun v wr => ∃ (left : Lit → Bool) (cnt : Nat) (os : List AlR), Hid (wr.ranges Tryd.prog 9 alElem gm w1.heap.size N D left cnt ∧ os.length + cnt ≤ N ∧ OwnK M wr W0.heap.size v os ∧ v ≠ .slice none 0 0 ∧ CollA M left os ∧ W0.grownBy wr none)) (fun _ wr => wr.rangeLeft gm w1.heap.size)
  case atStart =>
    exact ⟨_, _, [], HR2.out.1, by rw [HSz.out]; simp, HR2.out.2.2.2.kept HR2.out.2.1 (Or.inr (by simp [Value.ownBlock])), by simp, CollA.start HD.out, gb_none HR2.out.2.2.1 HR2.out.2.1⟩
  case round =>
    obtain ⟨left, cnt, os, HI⟩ := hrel
    have hrg := HI.out.1
    go_wp2_with (first
      | (at_next; refine wpList_next_ranges _ rfl _ rfl 9 lawS alElem mkS mkAl mkS_inv mkAl_inv gm w1.heap.size N D left cnt rfl hrg ?_ ?_)
      | go_in)
    · intro _ hl0
      obtain ⟨h1, h2, hrow, hnn, hC, hg⟩ := HI.out
      obtain ⟨g, n5, cap, rfl⟩ : ∃ g n cap, u5 = .slice (some ⟨g, 0, none⟩) n cap := by
        rcases hrow.2 with ⟨hnil, _⟩ | ⟨g, cap, cur, e, _⟩
        · exact absurd hnil hnn
        · exact ⟨g, _, cap, e⟩
      have hbase : W0.heap.size ≤ g := (World.ownsRow.lt hrow g rfl).1
      have hp := hC.perm HD.out.ok.1 hl0
      have hn5 : n5 = N := by
        rcases hrow.2 with ⟨hnil, _⟩ | ⟨g', cap', cur, e, _⟩
        · exact absurd hnil hnn
        · simp only [Value.slice.injEq] at e
          rw [e.2.1, hp.length_eq, HN.out]
      subst hn5
      have gw := gb_none HB.out.1 hg
      have HSo : Hid (Calls Tryd.prog 40 #[.slice (some ⟨g, 0, none⟩) n5 cap, .func (.func 41) #[] #[.pointer (some ⟨w.heap.size + 1, 0, none⟩), .pointer (some ⟨w.heap.size, 0, none⟩)]] wr fun e w' => e = .returned (.tuple #[]) ∧ Hid (OwnK M w' w.heap.size (.slice (some ⟨g, 0, none⟩) n5 cap) M ∧ w.grownBy w' none)) := by
        have hz := HB.out.2.1
        have hrow' : OwnK M wr w.heap.size (.slice (some ⟨g, 0, none⟩) n5 cap) os := by
          obtain ⟨r1, r2⟩ := hrow
          refine ⟨r1, ?_⟩
          rcases r2 with r2 | ⟨g', cap', cur, e1, e2, e3⟩
          · exact .inl r2
          · exact .inr ⟨g', cap', cur, e1, by omega, e3⟩
        refine (sortKeys_any wr S gx R most M gm D hv (HD.out.keep gw) w.heap.size (w.heap.size + 1) (cell_keep HB.out.2.2.1 hg) (cell_keep HB.out.2.2.2 hg) w.heap.size g n5 cap os hrow' hp (by omega) (by omega) (fun k _ hk e => by have := HSS.out k hk; omega)).mono ?_
        rintro e w' ⟨rfl, q1, q2⟩
        exact ⟨rfl, q1, gb_new gw q2 (fun k hk => by cases hk; omega)⟩
      clear h1 h2 hrow hnn hC hg hl0 hrg HI hbase hp gw HR2 HB HD HSS
      go_wp2_with fail
      refine HSo.out.mono ?_
      rintro e w3 ⟨rfl, H3⟩
      clear HSo
      go_wp2
      go_ret
      exact ⟨g, cap, rfl, H3.out⟩
    · intro x cu cs ce kl y ps w3 cnt3 hkey hlk hRv hat hrg3 hlt hg3 hs3 hen
      obtain ⟨l, hkx, rfl, hll⟩ := keyOf_string_inv hkey
      obtain ⟨o, ho, hlo⟩ := HD.out.keyed hat
      subst hlo
      have hxe : x = keyB o.lbs := by
        unfold mkS at hkx
        simpa using hkx
      subst hxe
      obtain ⟨h1, h2, hrow, hnn, hC, hg⟩ := HI.out
      have hrow3 : OwnK M w3 W0.heap.size u5 os := World.ownsRow.kept hrow hg3 (Or.inr (row_ne_iter hrow hrg).symm)
      have hw3 : W0.grownBy w3 none := gb_new hg hg3 (fun k hk => by cases hk; exact HR2.out.2.2.1.size)
      have hek : encK M o = .string (ByteArray.mk ⟨keyB o.lbs⟩) := by unfold encK; rw [lbK_mem HD.out.ok.1 ho]
      have H3 : Hid (w3.ranges Tryd.prog 9 alElem gm w1.heap.size N D (fun z => left z && !z.sameKey (.string (keyB o.lbs))) cnt3 ∧ OwnK M w3 W0.heap.size u5 os ∧ W0.grownBy w3 none ∧ CollA M (fun z => left z && !z.sameKey (.string (keyB o.lbs))) (os ++ [o]) ∧ wr.rangeLeft gm w1.heap.size = cnt ∧ cnt3 < cnt ∧ os.length + cnt ≤ N) :=
        ⟨hrg3, hrow3, hw3, hC.step HD.out.ok.1 ho hlk, hrg.left_eq, hlt, h2⟩
      have hs3b := hw3.size
      have HEK := hidJ hek
      clear hkx hkey hlk hRv hat hrg3 hlt hg3 hs3 hrg HI h1 h2 hrow hnn hC hg hw3 hll hek
      unfold mkS mkAl at hen
      unfold mkS mkAl
      generalize ByteArray.mk ⟨keyB o.lbs⟩ = KS at *
      go_wp2_with (first
        | (at_builtin; refine wpList_append_own _ rfl _ _ 64 rfl W0.heap.size 9 i0 (.string ⟨#[]⟩) 1 16 Tryd.underlying64 hi hz0 hz1 hz2 rfl (by decide) _ _ _ rfl (World.ownsRow.alloc hrow3 _) ⟨w3.heap.size, 0, none⟩ 1 1 [.string KS] rfl rfl (cell_one_new _ _ _) (by simp [Value.oneCell']) (by have := H3.out.2.2.2.2.2.2; unfold maxLen; omega) (by have := H3.out.2.2.2.2.2.2; omega) (by simp; omega) ?_; intro v4 w4 hown4 hg4 hnil4; go_frame)
        | go_in)
      have H4 : Hid (∃ (left : Lit → Bool) (cnt' : Nat) (os : List AlR), (w4.ranges Tryd.prog 9 alElem gm w1.heap.size N D left cnt' ∧ os.length + cnt' ≤ N ∧ OwnK M w4 W0.heap.size v4 os ∧ v4 ≠ .slice none 0 0 ∧ CollA M left os ∧ W0.grownBy w4 none) ∧ w4.rangeLeft gm w1.heap.size < wr.rangeLeft gm w1.heap.size) := by
        obtain ⟨hrg3, hrow3, hw3, hC, hle, hlt, hss⟩ := H3.out
        have hrg4 := (hrg3.alloc (.cells #[.string KS] 9)).kept hg4 (row_ne_low hrow3 (by have := HB.out.1.size; omega)) (row_ne_iter hrow3 hrg3)
        refine ⟨_, cnt3, os ++ [o], ⟨hrg4, by simp; omega, ?_, fun hv' => by have := (hnil4.1 hv').2; omega, hC, ?_⟩, ?_⟩
        · unfold OwnK
          simpa [HEK.out] using hown4
        · exact gb_new (gb_none hw3 (World.grownBy_alloc _ _ none)) hg4 (fun k hk => (World.ownsRow.lt hrow3 k hk).1)
        · rw [hrg4.left_eq, hle]; exact hlt
      obtain ⟨left4, cnt4, os4, H5, hms⟩ := H4.out
      have H6 : Hid (w4.ranges Tryd.prog 9 alElem gm w1.heap.size N D left4 cnt4 ∧ os4.length + cnt4 ≤ N ∧ OwnK M w4 W0.heap.size v4 os4 ∧ v4 ≠ .slice none 0 0 ∧ CollA M left4 os4 ∧ W0.grownBy w4 none) := H5
      clear H3 H4 H5 hown4 hg4 hnil4 hrow3
      go_roundw
      case rel => exact ⟨left4, cnt4, os4, H6⟩
      case measure => exact hms
end Go.Proofs.YtmgbcmogdjhacaaDoor

/- Alb -/
namespace Go.Proofs.YtmgbcmogdjhacaaDoor
open Go.RowKit Go.Shelf Go.Sort Go.Maps Go.WideMaps

/-- an alert with the slice of its labels -/
abbrev AlX := Value × AlR
def xZ : AlX := (.slice none 0 0, alZ)
def alc (x : AlX) : List Value := [x.1, .int .i64 x.2.st, .int .i64 x.2.en]
def alf (xs : List AlX) : List Value := xs.flatMap alc
theorem alf_len (xs : List AlX) : (alf xs).length = xs.length * 3 := by
  induction xs with
  | nil => rfl
  | cons o xs ih =>
    have : alf (o :: xs) = alc o ++ alf xs := rfl
    rw [this, List.length_append, ih]
    simp [alc]
    omega
theorem alf_append (a b : List AlX) : alf (a ++ b) = alf a ++ alf b := by simp [alf]
theorem alf_get (xs : List AlX) : ∀ j f, j < xs.length → f < 3 → (alf xs)[j * 3 + f]? = (alc (xs.getD j xZ))[f]? := by
  induction xs with
  | nil => intro j f hj; simp at hj
  | cons o xs ih =>
    intro j f hj hf
    have e : alf (o :: xs) = alc o ++ alf xs := rfl
    have hl : (alc o).length = 3 := rfl
    rw [e]
    cases j with
    | zero =>
      rw [Nat.zero_mul, Nat.zero_add, List.getElem?_append_left (by omega)]
      rfl
    | succ j =>
      rw [List.getElem?_append_right (by omega), hl]
      have e2 : (j + 1) * 3 + f - 3 = j * 3 + f := by omega
      rw [e2, ih j f (by simpa using hj) hf]
      rfl
theorem infoAl : (Tryd.prog.info? 34).map (fun i => (i.zero, i.size, i.bytes)) = some (some zAl, 3, 40) := by kernel_rfl
/-- a row of alerts of the call's own -/
def OwnX (w : World) (base : Nat) (v : Value) (xs : List AlX) : Prop := w.ownsRow base 34 3 v xs.length (alf xs)
theorem OwnX.nil (w : World) (base : Nat) : OwnX w base (.slice none 0 0) [] := World.ownsRow_nil w base _ _
theorem OwnX.shape {w : World} {base : Nat} {v : Value} {xs : List AlX} (h : OwnX w base v xs) : ∃ a c, v = .slice a xs.length c := by
  rcases h.2 with ⟨rfl, hn⟩ | ⟨g, cap, cur, rfl, _⟩
  · exact ⟨none, 0, by rw [hn]⟩
  · exact ⟨_, _, rfl⟩
theorem OwnX.keep {w w' : World} {base : Nat} {v : Value} {xs : List AlX} (h : OwnX w base v xs) (hg : w.grownBy w' none) : OwnX w' base v xs := World.ownsRow.kept h hg (by cases v.ownBlock <;> simp)
theorem OwnX.lt {w : World} {base : Nat} {v : Value} {xs : List AlX} (h : OwnX w base v xs) : ∀ k, v.ownBlock = some k → base ≤ k ∧ k < w.heap.size := World.ownsRow.lt h
theorem OwnX.mono {w : World} {base base' : Nat} {v : Value} {xs : List AlX} (h : OwnX w base v xs) (hb : base' ≤ base) : OwnX w base' v xs := by
  obtain ⟨h1, h2⟩ := h
  refine ⟨h1, ?_⟩
  rcases h2 with h2 | ⟨g, cap, cur, hv, hg, r⟩
  · exact .inl h2
  · exact .inr ⟨g, cap, cur, hv, by omega, r⟩
/-- its cells -/
theorem OwnX.cells {w : World} {base : Nat} {v : Value} {xs : List AlX} (h : OwnX w base v xs) {j : Nat} (hj : j < xs.length) : ∃ g c, v = .slice (some ⟨g, 0, none⟩) xs.length c ∧ xs.length ≤ c ∧ w.cell? ⟨g, j * 3, none⟩ = some (xs.getD j xZ).1 ∧ w.cell? ⟨g, j * 3 + 1, none⟩ = some (.int .i64 (xs.getD j xZ).2.st) ∧ w.cell? ⟨g, j * 3 + 2, none⟩ = some (.int .i64 (xs.getD j xZ).2.en) := by
  have h0 := h
  rcases h.2 with ⟨-, hn⟩ | ⟨g, cap, cur, rfl, hg, hh, hnc, hcm, hcs, ht⟩
  · omega
  · have hc := fun f (hf : f < 3) => World.ownsRow.cellAt h0 (j * 3 + f) (by omega)
    have e := fun f (hf : f < 3) => (hc f hf).trans (alf_get xs j f hj hf)
    exact ⟨g, cap, rfl, hnc, e 0 (by omega), e 1 (by omega), e 2 (by omega)⟩
theorem oneX {x : AlX} (h : x.1.oneCell' = true) : ∀ u ∈ alc x, u.oneCell' = true := by
  intro u hu
  unfold alc at hu
  simp only [List.mem_cons, List.not_mem_nil, or_false] at hu
  rcases hu with rfl | rfl | rfl
  · exact h
  · rfl
  · rfl
/-- one more -/
theorem OwnX.push {W X : World} {base : Nat} {v : Value} {xs : List AlX} (h : OwnX W base v xs) (x : AlX) (hx : x.1.oneCell' = true) (hl : xs.length ≤ 1000000) (hb : base ≤ W.heap.size) (hX : W.grownBy X none) (hh : X.heap = (W.alloc (.cells (alc x).toArray 34)).heap) :
    ∃ a2 c2 W2, (Builtin.append_ #[38, 38] 38 #[v, .slice (some ⟨W.heap.size, 0, none⟩) 1 1]).run Tryd.prog X = .ok (.slice a2 (xs.length + 1) c2) W2 ∧ OwnX W2 base (.slice a2 (xs.length + 1) c2) (xs ++ [x]) ∧ Fr X W2 v (.slice a2 (xs.length + 1) c2) := by
  obtain ⟨i0, hi, hz0, hz1, hz2⟩ := info_parts infoAl
  have hnew : X.heap[W.heap.size]? = some (.cells (alc x).toArray 34 (0, 0)) := by rw [hh]; exact Go.heap_alloc_new W _
  have hsz : X.heap.size = W.heap.size + 1 := by rw [hh]; simp
  obtain ⟨v2, W2, hrun, ho, hfr⟩ := run_appH X 38 38 34 i0 _ 3 40 base Tryd.underlying38 hi hz0 hz1 hz2 rfl (by decide) v xs.length (alf xs) (World.ownsRow.kept h hX (by cases v.ownBlock <;> simp)) (some ⟨W.heap.size, 0, none⟩) 1 1 (alc x) rfl
    (fun j u hj => by
      refine ⟨_, rfl, ?_⟩
      rw [Go.WideShapes.add_plain]
      simp only [World.cell?, hnew]
      simpa using hj) (fun e => by cases e) (oneX hx) (by omega) (by omega) (by omega)
  obtain ⟨a2, cc, rfl⟩ : ∃ a c, v2 = .slice a (xs.length + 1) c := by
    rcases ho.2 with ⟨e, e2⟩ | ⟨b, cap, cur, e, -⟩
    · omega
    · exact ⟨_, _, e⟩
  refine ⟨a2, cc, W2, hrun, ?_, hfr⟩
  have e : alf (xs ++ [x]) = alf xs ++ alc x := by rw [alf_append]; simp [alf]
  unfold OwnX
  rw [e, List.length_append]
  exact ho
/-- the set's alerts with their slices -/
def xsM (hv : List LbT → Value) (M : List AlR) : List AlX := M.map fun a => (hv a.lbs, a)
theorem xsM_len (hv : List LbT → Value) (M : List AlR) : (xsM hv M).length = M.length := by simp [xsM]
theorem xsM_take {hv : List LbT → Value} {M : List AlR} {z : Nat} (hz : z < M.length) : (xsM hv M).take (z + 1) = (xsM hv M).take z ++ [(hv (M.getD z alZ).lbs, M.getD z alZ)] := by
  rw [List.take_succ_eq_append_getElem (by rw [xsM_len]; exact hz)]
  congr 1
  simp [xsM, hz]
theorem getA_mem {M : List AlR} {z : Nat} (hz : z < M.length) : M.getD z alZ ∈ M := by
  simp [List.getD, hz]
theorem OwnK.keep {M : List AlR} {w w' : World} {base : Nat} {v : Value} {os : List AlR} (h : OwnK M w base v os) (hg : w.grownBy w' none) : OwnK M w' base v os := World.ownsRow.kept h hg (by cases v.ownBlock <;> simp)
theorem OwnK.cell {M : List AlR} {w : World} {base g n c : Nat} {os : List AlR} (h : OwnK M w base (.slice (some ⟨g, 0, none⟩) n c) os) {z : Nat} (hz : z < os.length) : w.cell? ⟨g, z, none⟩ = some (encK M (os.getD z alZ)) := by
  rcases h.2 with ⟨h', _⟩ | ⟨g', cap', cur, h', _⟩
  · simp at h'
  · simp only [Value.slice.injEq] at h'
    obtain ⟨-, h2, -⟩ := h'
    subst h2
    have := World.ownsRow.cellAt h z (by omega)
    rw [this]
    simp [List.getD, hz]
/-- All between two rounds -/
structure AllJ (w : World) (hv : List LbT → Value) (M : List AlR) (g n c : Nat) (z : Nat) (wr : World) : Prop where
  old : w.grownBy wr none
  keys : OwnK M wr (w.heap.size + 1) (.slice (some ⟨g, 0, none⟩) n c) M
  row : ∃ v, Boxed wr w.heap.size 38 v ∧ OwnX wr (w.heap.size + 1) v ((xsM hv M).take z)
theorem AllJ.ne {w wr : World} {hv : List LbT → Value} {M : List AlR} {g n c z : Nat} (h : AllJ w hv M g n c z wr) {v : Value} (hv' : OwnX wr (w.heap.size + 1) v ((xsM hv M).take z)) : v.ownBlock ≠ some g := fun e => by
  obtain ⟨cur, h1⟩ := row_objE hv' e
  obtain ⟨cur', h2⟩ := row_objE h.keys (k := g) rfl
  rw [h1] at h2
  simp at h2
end Go.Proofs.YtmgbcmogdjhacaaDoor
