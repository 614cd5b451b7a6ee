/-
  Alu, Alv, Alx, Aly, in one text.
-/
import Derived.Test.YtmgbcmogdjhacaaDoorVE
import Derived.Deep.Slices
/- Alu -/
namespace Go.Proofs.YtmgbcmogdjhacaaDoor
open Go.RowKit Go.Shelf Go.Sort Go.Maps Go.WideMaps

theorem lt_pref : ∀ {M : List AlR} (_ : riseA M) (x : List LbT) (j : Nat), j < M.length → (cmpLs (M.getD j alZ).lbs x < 0 ↔ j < (ltA M x).length) := by
  intro M
  induction M with
  | nil => intro _ x j hj; simp at hj
  | cons a t ih =>
    intro h x j hj
    unfold riseA at h
    rw [List.pairwise_cons] at h
    by_cases ha : cmpLs a.lbs x < 0
    · have e : ltA (a :: t) x = a :: ltA t x := by unfold ltA; simp [ha]
      rw [e]
      cases j with
      | zero => simpa using ha
      | succ j =>
        have := ih h.2 x j (by simpa using hj)
        simpa using this
    · have hall : ∀ b ∈ a :: t, ¬ cmpLs b.lbs x < 0 := by
        intro b hb
        rcases List.mem_cons.1 hb with rfl | hb
        · exact ha
        · intro hbx
          exact ha (cmpLs_lt_trans _ _ _ (h.1 b hb) hbx)
      have e : ltA (a :: t) x = [] := by
        unfold ltA
        rw [List.filter_eq_nil_iff]
        intro b hb
        simpa using hall b hb
      rw [e]
      constructor
      · intro hc
        exact absurd hc (hall _ (getA_mem hj))
      · intro hc
        simp at hc
theorem ltA_le (M : List AlR) (x : List LbT) : (ltA M x).length ≤ M.length := List.length_filter_le _ _
theorem at_found {M : List AlR} (h : riseA M) (x : List LbT) : (findA M x).isSome = (decide ((ltA M x).length < M.length) && decide ((M.getD (ltA M x).length alZ).lbs = x)) := by
  cases hf : findA M x with
  | none =>
    symm
    rw [show (none : Option AlR).isSome = false from rfl, Bool.and_eq_false_iff, decide_eq_false_iff_not, decide_eq_false_iff_not]
    by_cases hk : (ltA M x).length < M.length
    · right
      exact findA_none.1 hf _ (getA_mem hk)
    · exact .inl hk
  | some o =>
    obtain ⟨h1, h2⟩ := findA_some hf
    obtain ⟨i, hi, he⟩ := List.mem_iff_getElem.1 h1
    have hg : M.getD i alZ = o := by simp [List.getD, hi, he]
    have hik : (ltA M x).length = i := by
      have a1 : ¬ i < (ltA M x).length := by
        rw [← lt_pref h x i hi, hg, h2, (cmpLs_zero _ _).2 rfl]
        omega
      by_cases hlt : (ltA M x).length < i
      · exfalso
        have hj : (ltA M x).length < M.length := by omega
        have a2 := (List.pairwise_iff_getElem.1 h) _ i hj hi hlt
        have a3 : M.getD (ltA M x).length alZ = M[(ltA M x).length] := by simp [List.getD, hj]
        have a4 := (lt_pref h x _ hj)
        rw [a3] at a4
        rw [he, h2] at a2
        exact Nat.lt_irrefl _ (a4.1 a2)
      · omega
    rw [hik, hg, h2]
    simp [hi]
set_option maxRecDepth 8000 in
set_option maxHeartbeats 6400000 in
theorem refAt_any (w : World) (v u : Value) (M : List AlR) (ls : List LbT) (hM : riseA M) (hv : RdX w v M) (hu : RdL w u ls) :
    Calls Tryd.prog 30 #[v, u] w fun e w' => e = .returned (.tuple #[.int .i64 ((ltA M ls).length : Int), .bool (findA M ls).isSome]) ∧ w.grownBy w' none := by
  have HV := hidJ (And.intro hv hu)
  obtain ⟨a, c, rfl, hc1, hc2, -⟩ := hv
  obtain ⟨ua, uc, rfl⟩ : ∃ a c, u = .slice a ls.length c := by obtain ⟨a, c, h, _⟩ := hu; exact ⟨a, c, h⟩
  unfold maxLen at hc2
  have HL : Hid (∀ j, j < M.length → (cmpLs (M.getD j alZ).lbs ls < 0 ↔ j < (ltA M ls).length)) := lt_pref hM ls
  have hkl := ltA_le M ls
  have HF := hidJ (at_found hM ls)
  generalize (findA M ls).isSome = fb at *
  generalize (ltA M ls).length = k at *
  obtain ⟨N, hN⟩ : ∃ N, M.length = N := ⟨_, rfl⟩
  have HN := hidJ hN
  rw [hN] at HV hc1 hkl HL HF ⊢
  clear hN hu hM
  generalize ls.length = LN at *
  go_enter Tryd.func30, Tryd.ntmps30
  go_wp2
  go_loopw [6] (fun i wr => ∃ z : Nat, z ≤ N ∧ k ≤ z ∧ i = .int .i64 z ∧ Hid (w.grownBy wr none)) (fun i _ => (intOf i).toNat)
  case atStart => exact ⟨N, by omega, by omega, rfl, gb_refl _ _⟩
  case round =>
    obtain ⟨z, hzN, hkz, rfl, HG⟩ := hrel
    by_cases hz0 : z = 0
    · subst hz0
      have hk0 : k = 0 := by omega
      subst hk0
      by_cases hN0 : 0 < N
      · have hNi : (0 : Int) < (N : Int) := by omega
        obtain ⟨a', c', e1, -, -, k1⟩ := HV.out.1.keep HG.out
        simp only [Value.slice.injEq] at e1
        obtain ⟨rfl, -, rfl⟩ := e1
        obtain ⟨b1, o1, u1, rfl, c0, -, -, r1⟩ := k1 0 (by rw [HN.out]; exact hN0)
        obtain ⟨x1, x2, x3, hx⟩ : ∃ a n c, u1 = .slice a n c := by obtain ⟨a, c, h, _⟩ := r1; exact ⟨_, _, _, h⟩
        subst hx
        have HS : Hid (Calls Tryd.prog 19 #[.slice x1 x2 x3, .slice ua LN uc] wr fun e w' => e = .returned (.bool fb) ∧ Hid (w.grownBy w' none)) := by
          refine (refSameL_any wr _ _ _ _ r1 (HV.out.2.keep HG.out)).mono ?_
          rintro e w' ⟨rfl, q⟩
          refine ⟨?_, gb_none HG.out q⟩
          rw [HF.out]
          simp [hN0]
        simp only [Nat.zero_mul, Nat.add_zero] at c0
        clear k1 r1 HV HL HF
        go_wp2_with fail
        refine HS.out.mono ?_
        rintro e w1 ⟨rfl, H1⟩
        clear HS
        go_wp2
        go_ret2
        exact ⟨rfl, H1.out⟩
      · have hNe : N = 0 := by omega
        subst hNe
        have hfb : fb = false := by rw [HF.out]; rfl
        subst hfb
        clear HV HL HF
        go_wp2
        go_ret2
        exact ⟨rfl, HG.out⟩
    · obtain ⟨y, hy⟩ : ∃ y, z = y + 1 := ⟨z - 1, by omega⟩
      have hyi : (z : Int) - 1 = (y : Int) := by omega
      have hzp : (0 : Int) < (z : Int) := by omega
      have hyl : (y : Int) < (N : Int) := by omega
      obtain ⟨a', c', e1, -, -, k1⟩ := HV.out.1.keep HG.out
      simp only [Value.slice.injEq] at e1
      obtain ⟨rfl, -, rfl⟩ := e1
      obtain ⟨b1, o1, u1, rfl, c0, -, -, r1⟩ := k1 y (by rw [HN.out]; omega)
      obtain ⟨x1, x2, x3, hx⟩ : ∃ a n c, u1 = .slice a n c := by obtain ⟨a, c, h, _⟩ := r1; exact ⟨_, _, _, h⟩
      subst hx
      have HC : Hid (Calls Tryd.prog 18 #[.slice x1 x2 x3, .slice ua LN uc] wr fun e w' => e = .returned (.int .i64 (cmpLs (M.getD y alZ).lbs ls)) ∧ Hid (w.grownBy w' none ∧ w'.cell? ⟨b1, o1, none⟩ = w'.cell? ⟨b1, o1, none⟩)) := (refCompare_any wr _ _ _ _ r1 (HV.out.2.keep HG.out)).mono fun e w' ⟨h1, h2⟩ => ⟨h1, gb_none HG.out h2, rfl⟩
      have hiff := HL.out y (by omega)
      generalize cmpLs (M.getD y alZ).lbs ls = cc at *
      have HY := hidJ hy
      have hyle : y ≤ N := by omega
      by_cases hcc : cc < 0
      · have hck : k = z := by have := hiff.1 hcc; omega
        have hcn : ¬ (0 : Int) ≤ cc := by omega
        clear k1 r1 hiff hy
        by_cases hzN2 : z < N
        · have hzi : (z : Int) < (N : Int) := by omega
          have HS : Hid (∀ W, w.grownBy W none → ∃ y1 y2 y3, W.cell? ⟨b1, o1 + z * 3, none⟩ = some (.slice y1 y2 y3) ∧ Calls Tryd.prog 19 #[.slice y1 y2 y3, .slice ua LN uc] W fun e w' => e = .returned (.bool fb) ∧ Hid (w.grownBy w' none)) := by
            intro W hW
            obtain ⟨a', c', e1, -, -, k1⟩ := HV.out.1.keep hW
            simp only [Value.slice.injEq] at e1
            obtain ⟨rfl, -, rfl⟩ := e1
            obtain ⟨b2, o2, u2, e2, c2, -, -, r2⟩ := k1 z (by rw [HN.out]; exact hzN2)
            simp only [Option.some.injEq, Addr.mk.injEq, and_true] at e2
            obtain ⟨rfl, rfl⟩ := e2
            obtain ⟨y1, y2, y3, hx⟩ : ∃ a n c, u2 = .slice a n c := by obtain ⟨a, c, h, _⟩ := r2; exact ⟨_, _, _, h⟩
            subst hx
            refine ⟨y1, y2, y3, c2, (refSameL_any W _ _ _ _ r2 (HV.out.2.keep hW)).mono ?_⟩
            rintro e w' ⟨rfl, q⟩
            refine ⟨?_, gb_none hW q⟩
            rw [HF.out, hck]
            simp [hzN2]
          subst hck
          go_wp2_with fail
          refine HC.out.mono ?_
          rintro e w1 ⟨rfl, H1⟩
          clear HC
          obtain ⟨y1, y2, y3, hc3, HS2⟩ := HS.out w1 H1.out.1
          have HS2 := hidJ HS2
          clear HS
          go_wp2_with fail
          refine HS2.out.mono ?_
          rintro e w2 ⟨rfl, H2⟩
          clear HS2
          go_wp2
          go_ret2
          exact ⟨rfl, H2.out⟩
        · have hzi : ¬ (z : Int) < (N : Int) := by omega
          have hfb : fb = false := by rw [HF.out, hck]; simp [hzN2]
          subst hfb
          subst hck
          clear HV HL HF
          go_wp2_with fail
          refine HC.out.mono ?_
          rintro e w1 ⟨rfl, H1⟩
          clear HC
          go_wp2
          go_ret2
          exact ⟨rfl, H1.out.1⟩
      · have hcn : (0 : Int) ≤ cc := by omega
        have hky : k ≤ y := by have := fun h => hcc (hiff.2 h); omega
        clear k1 r1 hiff hy
        go_wp2_with fail
        refine HC.out.mono ?_
        rintro e w1 ⟨rfl, H1⟩
        clear HC
        have H1b := hidJ H1.out.1
        go_wp2
        go_roundw
        case rel => exact ⟨y, hyle, hky, by first | rfl | go_num, H1b⟩
        case measure => have := HY.out; simp [intOf]; omega
set_option maxHeartbeats 800000 in
theorem refTime_any (n : Int) (w : World) : Calls Tryd.prog 44 #[.int .i64 n] w fun e w' => e = .returned (.bool (decide (isT n))) ∧ w' = w := by
  rw [← within_isT]
  by_cases h1 : 0 ≤ n
  · by_cases h2 : n ≤ 1125899906842624
    · rw [decide_eq_true h1, decide_eq_true h2]
      go_enter Tryd.func44, Tryd.ntmps44
      go_wp2
      go_ret
      exact ⟨by simp, rfl⟩
    · rw [decide_eq_true h1, decide_eq_false h2]
      go_enter Tryd.func44, Tryd.ntmps44
      go_wp2
      go_ret
      exact ⟨by simp, rfl⟩
  · rw [decide_eq_false h1]
    go_enter Tryd.func44, Tryd.ntmps44
    go_wp2
    go_ret
    exact ⟨by simp, rfl⟩
set_option maxRecDepth 8000 in
set_option maxHeartbeats 1600000 in
theorem refOwn_any (w : World) (v : Value) (ls : List LbT) (hv : RdL w v ls) (hl : ls.length ≤ 4398046511104) :
    Calls Tryd.prog 27 #[v] w fun e w' => ∃ v', e = .returned v' ∧ OwnL w' w.heap.size v' ls ∧ w.grownBy w' none := by
  have HV := hidJ hv
  obtain ⟨a, c, rfl, hc1, hc2, -, hc4⟩ := hv
  unfold maxLen at hc2
  obtain ⟨i0, hi, hz0, hz1, hz2⟩ := info_parts infoLb
  obtain ⟨v', w', hrun, h2, h3⟩ := run_appH w 32 32 63 i0 _ 2 32 w.heap.size Tryd.underlying32 hi hz0 hz1 hz2 rfl (by decide) (.slice none 0 0) 0 [] (World.ownsRow_nil _ _ _ _) a ls.length c (lbf ls) (lbf_len ls) HV.out.rdc (fun h => ⟨by have := hc4 h; omega, hc4 h⟩) (lbf_one ls) (by omega) (by omega) (Nat.le_refl _)
  have HO : Hid (OwnL w' w.heap.size v' ls ∧ w.grownBy w' none) := by
    refine ⟨?_, h3.1⟩
    unfold OwnL
    simpa using h2
  obtain ⟨a2, n2, c2, rfl⟩ : ∃ a n c, v' = .slice a n c := by
    obtain ⟨a, c, e⟩ := HO.out.1.shape
    exact ⟨a, _, c, e⟩
  have HRun := hidJ hrun
  clear h2 h3 hc4 hz0 hz1 hz2 hi hrun
  go_enter Tryd.func27, Tryd.ntmps27
  go_wp2_with (at_builtin; refine wp_appRun rfl _ _ 32 rfl _ _ _ rfl rfl HRun.out ?_)
  go_wp2
  go_ret
  exact ⟨_, rfl, HO.out⟩
end Go.Proofs.YtmgbcmogdjhacaaDoor

/- Alv -/
namespace Go.Proofs.YtmgbcmogdjhacaaDoor
open Go.RowKit Go.Shelf Go.Sort Go.Maps Go.WideMaps

theorem alf_take (l : List AlX) (k : Nat) : (alf l).take (k * 3) = alf (l.take k) := by
  have h : alf l = alf (l.take k) ++ alf (l.drop k) := by rw [← alf_append, List.take_append_drop]
  by_cases hk : k ≤ l.length
  · rw [h, List.take_append_of_le_length (by rw [alf_len, List.length_take]; omega), List.take_of_length_le (by rw [alf_len, List.length_take]; omega)]
  · rw [List.take_of_length_le (by rw [alf_len]; omega), List.take_of_length_le (l := l) (by omega)]
theorem alf_drop (l : List AlX) (k : Nat) (hk : k ≤ l.length) : (alf l).drop (k * 3) = alf (l.drop k) := by
  have h : alf l = alf (l.take k) ++ alf (l.drop k) := by rw [← alf_append, List.take_append_drop]
  have hl : (alf (l.take k)).length = k * 3 := by rw [alf_len, List.length_take]; omega
  rw [h, ← hl, List.drop_left]
theorem run_headX (W : World) (a : Option Addr) (n c p : Nat) (hp : p ≤ n) (hc : n ≤ c) : (Instr.slice 38 (.slice a n c) none (some (.int .i64 (p : Int))) none).run Tryd.prog W = .ok (.slice a p c) W := by
  have ht' : Tryd.prog.underlying 38 = some (.slice (Tryd.prog.elem 38)) := by simp [Program.elem, Tryd.underlying38]
  have he : Tryd.prog.elem 38 = 34 := by simp [Program.elem, Tryd.underlying38]
  rw [run_slice_h W _ _ _ _ ht' .i64 _ (by omega) (by omega), he, Tryd.sizeOf34]
  have hm : (Option.map (fun x => Addr.add x (0 * 3)) a) = a := by cases a <;> simp [Addr.add]
  simp [Result.andThen, sliced]
  intro _
  simpa using hm
theorem OwnX.head {w : World} {base : Nat} {a : Option Addr} {n c : Nat} {l : List AlX} (h : OwnX w base (.slice a n c) l) (k : Nat) : RdC w a (alf (l.take k)) ∧ (a = none → l = [] ∧ n = 0 ∧ c = 0) ∧ n = l.length ∧ n ≤ c ∧ c ≤ maxLen := by
  rcases h.2 with ⟨e, hn⟩ | ⟨g, cap, cur, e, hg, hh, hnc, hcm, hcs, ht⟩
  · simp only [Value.slice.injEq] at e
    obtain ⟨rfl, rfl, rfl⟩ := e
    have hl : l = [] := List.eq_nil_of_length_eq_zero hn
    subst hl
    refine ⟨fun j u hj => by simp [alf] at hj, fun _ => ⟨rfl, rfl, rfl⟩, rfl, Nat.le_refl _, by unfold maxLen; omega⟩
  · simp only [Value.slice.injEq] at e
    obtain ⟨rfl, rfl, rfl⟩ := e
    refine ⟨fun j u hj => ?_, fun e => (by cases e), rfl, hnc, hcm⟩
    refine ⟨_, rfl, ?_⟩
    rw [Go.WideShapes.add_plain, Nat.zero_add]
    rw [← alf_take] at hj
    have hj2 := hj
    rw [List.getElem?_take] at hj
    split at hj
    · have hlt : j < (alf l).length := by
        have := List.getElem?_eq_some_iff.1 hj
        exact this.1
      rw [alf_len] at hlt
      rw [World.ownsRow.cellAt h j hlt]
      exact hj
    · cases hj
theorem OwnX.tail {w : World} {base : Nat} {a : Option Addr} {n c : Nat} {l : List AlX} (h : OwnX w base (.slice a n c) l) (k : Nat) (hk : k ≤ n) :
    ∃ a', (∀ W, (Instr.slice 38 (.slice a n c) (some (.int .i64 (k : Int))) none none).run Tryd.prog W = .ok (.slice a' (n - k) (c - k)) W) ∧ RdC w a' (alf (l.drop k)) ∧ (a' = none → n - k = 0 ∧ c - k = 0) := by
  have ht' : Tryd.prog.underlying 38 = some (.slice (Tryd.prog.elem 38)) := by simp [Program.elem, Tryd.underlying38]
  have he : Tryd.prog.elem 38 = 34 := by simp [Program.elem, Tryd.underlying38]
  obtain ⟨-, hno, hnl, hnc, hcm⟩ := h.head 0
  unfold maxLen at hcm
  by_cases hc : c = k
  · refine ⟨a, fun W => ?_, fun j u hj => ?_, fun e => ⟨by omega, by omega⟩⟩
    · rw [run_slice_l W _ _ _ _ ht' .i64 _ (by omega) (by omega), he, Tryd.sizeOf34]
      simp [Result.andThen, sliced, hc]
    · rw [List.drop_eq_nil_of_le (by omega)] at hj
      simp [alf] at hj
  · rcases h.2 with ⟨e, hn⟩ | ⟨g, cap, cur, e, hg, hh, hnc', hcm', hcs, ht⟩
    · simp only [Value.slice.injEq] at e
      omega
    · simp only [Value.slice.injEq] at e
      obtain ⟨rfl, hn, rfl⟩ := e
      refine ⟨some ⟨g, k * 3, none⟩, fun W => ?_, fun j u hj => ?_, fun e => (by cases e)⟩
      · rw [run_slice_l W _ _ _ _ ht' .i64 _ (by omega) (by omega), he, Tryd.sizeOf34]
        simp [Result.andThen, sliced, Addr.add, hc]
        intro h; omega
      · refine ⟨_, rfl, ?_⟩
        rw [Go.WideShapes.add_plain]
        rw [← alf_drop l k (by omega), List.getElem?_drop] at hj
        have hlt : k * 3 + j < (alf l).length := (List.getElem?_eq_some_iff.1 hj).1
        rw [alf_len] at hlt
        have h' : w.ownsRow base 34 3 (.slice (some ⟨g, 0, none⟩) l.length c) l.length (alf l) := by rw [← hn]; exact (by rw [hn] at h; rw [hn]; exact h)
        rw [World.ownsRow.cellAt h' (k * 3 + j) hlt]
        exact hj
/-- more of a row -/
theorem OwnX.more {X : World} {base : Nat} {v : Value} {xs ys : List AlX} (h : OwnX X base v xs) (ad : Option Addr) (m c : Nat) (hm : ys.length = m) (hr : RdC X ad (alf ys)) (hnil : ad = none → m = 0 ∧ c = 0) (h1 : ∀ y ∈ ys, y.1.oneCell' = true) (hl : xs.length + m ≤ 1000000) (hb : base ≤ X.heap.size) :
    ∃ a2 n2 c2 W2, (Builtin.append_ #[38, 38] 38 #[v, .slice ad m c]).run Tryd.prog X = .ok (.slice a2 n2 c2) W2 ∧ OwnX W2 base (.slice a2 n2 c2) (xs ++ ys) ∧ Fr X W2 v (.slice a2 n2 c2) := by
  obtain ⟨i0, hi, hz0, hz1, hz2⟩ := info_parts infoAl
  obtain ⟨v2, W2, hrun, ho, hfr⟩ := run_appH X 38 38 34 i0 _ 3 40 base Tryd.underlying38 hi hz0 hz1 hz2 rfl (by decide) v xs.length (alf xs) h ad m c (alf ys) (by rw [alf_len, hm]) hr hnil
    (fun u hu => by
      unfold alf at hu
      obtain ⟨y, hy, hu⟩ := List.mem_flatMap.1 hu
      exact oneX (h1 y hy) u hu) (by omega) (by omega) hb
  have ho2 : OwnX W2 base v2 (xs ++ ys) := by
    unfold OwnX
    rw [alf_append, List.length_append, hm]
    exact ho
  obtain ⟨a2, cc, rfl⟩ := ho2.shape
  exact ⟨a2, _, cc, W2, hrun, ho2, hfr⟩
theorem add_list {l : List AlX} {M : List AlR} (hm : l.map (·.2) = M) (hM : riseA M) (x : AlX) : (l.take (ltA M x.2.lbs).length ++ [x] ++ l.drop (if (findA M x.2.lbs).isSome then (ltA M x.2.lbs).length + 1 else (ltA M x.2.lbs).length)).map (·.2) = addA M x.2 := by
  have hlen := len_of_map hm
  rw [List.map_append, List.map_append, List.map_take, List.map_drop, hm]
  have hp := lt_pref hM x.2.lbs
  have hz : ∀ b : AlR, cmpLs b.lbs x.2.lbs = 0 ↔ b.lbs = x.2.lbs := fun b => cmpLs_zero _ _
  have hgd : ∀ j (hj : j < M.length), M.getD j alZ = M[j] := fun j hj => by simp [List.getD, hj]
  have e1 : M.take (ltA M x.2.lbs).length = ltA M x.2.lbs := by
    have hs : M = M.take (ltA M x.2.lbs).length ++ M.drop (ltA M x.2.lbs).length := (List.take_append_drop _ _).symm
    have ht : (M.take (ltA M x.2.lbs).length).filter (fun a => decide (cmpLs a.lbs x.2.lbs < 0)) = M.take (ltA M x.2.lbs).length := by
      rw [List.filter_eq_self]
      intro b hb
      obtain ⟨i, hi, rfl⟩ := List.mem_iff_getElem.1 hb
      rw [List.length_take] at hi
      rw [List.getElem_take]
      have := (hp i (by omega)).2 (by omega)
      rw [hgd i (by omega)] at this
      simpa using this
    have hd : (M.drop (ltA M x.2.lbs).length).filter (fun a => decide (cmpLs a.lbs x.2.lbs < 0)) = [] := by
      rw [List.filter_eq_nil_iff]
      intro b hb
      obtain ⟨i, hi, rfl⟩ := List.mem_iff_getElem.1 hb
      rw [List.length_drop] at hi
      rw [List.getElem_drop]
      have := mt (hp ((ltA M x.2.lbs).length + i) (by omega)).1 (by omega)
      rw [hgd _ (by omega)] at this
      simpa using this
    have : ltA M x.2.lbs = (M.take (ltA M x.2.lbs).length ++ M.drop (ltA M x.2.lbs).length).filter (fun a => decide (cmpLs a.lbs x.2.lbs < 0)) := by rw [List.take_append_drop]; rfl
    rw [List.filter_append, ht, hd, List.append_nil] at this
    exact this.symm
  have hge : ∀ b ∈ M.drop (ltA M x.2.lbs).length, 0 ≤ cmpLs b.lbs x.2.lbs := by
    intro b hb
    obtain ⟨i, hi, rfl⟩ := List.mem_iff_getElem.1 hb
    rw [List.length_drop] at hi
    rw [List.getElem_drop]
    have := mt (hp ((ltA M x.2.lbs).length + i) (by omega)).1 (by omega)
    rw [hgd _ (by omega)] at this
    omega
  have e2 : gtA M x.2.lbs = gtA (M.drop (ltA M x.2.lbs).length) x.2.lbs := by
    have : gtA M x.2.lbs = (M.take (ltA M x.2.lbs).length ++ M.drop (ltA M x.2.lbs).length).filter (fun a => decide (0 < cmpLs a.lbs x.2.lbs)) := by rw [List.take_append_drop]; rfl
    rw [this, List.filter_append]
    have h0 : (M.take (ltA M x.2.lbs).length).filter (fun a => decide (0 < cmpLs a.lbs x.2.lbs)) = [] := by
      rw [List.filter_eq_nil_iff]
      intro b hb
      rw [e1] at hb
      have := (List.mem_filter.1 hb).2
      simp only [decide_eq_true_eq] at this
      simp
      omega
    rw [h0, List.nil_append]
    rfl
  have e3 : M.drop (if (findA M x.2.lbs).isSome then (ltA M x.2.lbs).length + 1 else (ltA M x.2.lbs).length) = gtA M x.2.lbs := by
    rw [e2]
    have hf := at_found hM x.2.lbs
    by_cases hs : (findA M x.2.lbs).isSome
    · rw [if_pos hs]
      rw [hs] at hf
      have hf := hf.symm
      rw [Bool.and_eq_true, decide_eq_true_eq, decide_eq_true_eq] at hf
      obtain ⟨hk, hke⟩ := hf
      rw [hgd _ hk] at hke
      have hdrop : M.drop (ltA M x.2.lbs).length = M[(ltA M x.2.lbs).length] :: M.drop ((ltA M x.2.lbs).length + 1) := List.drop_eq_getElem_cons hk
      have hpw : (M.drop (ltA M x.2.lbs).length).Pairwise (fun a b => cmpLs a.lbs b.lbs < 0) := List.Pairwise.drop hM
      rw [hdrop] at hpw ⊢
      rw [List.pairwise_cons] at hpw
      unfold gtA
      rw [List.filter_cons, hke, (cmpLs_zero _ _).2 rfl]
      simp only [Int.lt_irrefl, decide_false, Bool.false_eq_true, if_false]
      symm
      rw [List.filter_eq_self]
      intro b hb
      have := hpw.1 b hb
      rw [hke] at this
      rw [cmpLs_neg] at this
      simp
      omega
    · rw [if_neg hs]
      symm
      unfold gtA
      rw [List.filter_eq_self]
      intro b hb
      have h1 := hge b hb
      have h2 : b ∈ M := List.mem_of_mem_drop hb
      have h3 : findA M x.2.lbs = none := by
        cases hq : findA M x.2.lbs with
        | none => rfl
        | some o => rw [hq] at hs; exact absurd rfl hs
      have h4 := findA_none.1 h3 b h2
      have h5 : cmpLs b.lbs x.2.lbs ≠ 0 := fun e => h4 ((hz b).1 e)
      simp
      omega
  rw [e1, e3]
  unfold addA
  simp
end Go.Proofs.YtmgbcmogdjhacaaDoor

/- Alx -/
namespace Go.Proofs.YtmgbcmogdjhacaaDoor
open Go.RowKit Go.Shelf Go.Sort Go.Maps Go.WideMaps

theorem OwnX.base {w : World} {base b' : Nat} {v : Value} {l : List AlX} (h : OwnX w base v l) (hb : ∀ k, v.ownBlock = some k → b' ≤ k) : OwnX w b' v l := by
  rcases h.2 with ⟨e, hn⟩ | ⟨g, cap, cur, e, hg, hr⟩
  · exact ⟨h.1, .inl ⟨e, hn⟩⟩
  · exact ⟨h.1, .inr ⟨g, cap, cur, e, hb g (by rw [e]; rfl), hr⟩⟩
theorem RdC.keepI {w w' : World} {a : Option Addr} {news : List Value} (h : RdC w a news) (hg : w.grownBy w' none) : RdC w' a news := by
  intro j u hj
  obtain ⟨ad, rfl, hc⟩ := h j u hj
  refine ⟨ad, rfl, ?_⟩
  rw [← hc]
  have hlt : (ad.add j).block < w.heap.size := by
    by_cases hb : (ad.add j).block < w.heap.size
    · exact hb
    · exfalso
      have : w.heap[(ad.add j).block]? = none := by simp; omega
      simp [World.cell?, this] at hc
  exact World.cell?_of_block (hg.block _ hlt (by simp))
/-- Add between two appends -/
def Ad (w W : World) (v : Value) (xs : List AlX) (u : Value) (ls : List LbT) : Prop := w.grownBy W none ∧ OwnX W (w.heap.size + 1) v xs ∧ OwnL W (w.heap.size + 1) u ls ∧ w.heap.size + 1 ≤ W.heap.size
theorem Ad.step {w W X W2 : World} {v v2 u : Value} {xs ys : List AlX} {ls : List LbT} (h : Ad w W v xs u ls) (hX : W.grownBy X none) (hfr : Fr X W2 v v2) (ho : OwnX W2 (w.heap.size + 1) v2 ys) : Ad w W2 v2 ys u ls := by
  have k1 : Ch W W2 (fun k => v.ownBlock = some k) := (Ch.of_gb (S := fun k => v.ownBlock = some k) hX (fun k hk => by cases hk)).trans (Ch.of_gb (S := fun k => v.ownBlock = some k) hfr.1 (fun k hk _ => hk)) (fun _ _ e => e)
  refine ⟨gb_ch h.1 k1 (fun k e => by have := (h.2.1.lt k e).1; omega), ho, row_ch h.2.2.1 k1 (fun k hk e => ?_), by have := k1.size; have := h.2.2.2; omega⟩
  obtain ⟨cur, h1⟩ := row_objE h.2.2.1 hk
  obtain ⟨cur', h2⟩ := row_objE h.2.1 e
  rw [h1] at h2
  simp at h2
theorem Ad.push {w W : World} {a : Option Addr} {n c : Nat} {u : Value} {xs : List AlX} {ls : List LbT} (h : Ad w W (.slice a n c) xs u ls) (hn : xs.length = n) (st en : Int) (hl : n ≤ 1000) : ∃ a3 c3 W3, (Builtin.append_ #[38, 38] 38 #[.slice a n c, .slice (some ⟨W.heap.size, 0, none⟩) 1 1]).run Tryd.prog (W.alloc (.cells #[u, .int .i64 st, .int .i64 en] 34)) = .ok (.slice a3 (n + 1) c3) W3 ∧ Ad w W3 (.slice a3 (n + 1) c3) (xs ++ [(u, ⟨ls, st, en⟩)]) u ls := by
  have hal := World.grownBy_alloc W (.cells #[u, .int .i64 st, .int .i64 en] 34) none
  have hu1 : u.oneCell' = true := by obtain ⟨a', c', rfl⟩ := h.2.2.1.shape; rfl
  obtain ⟨a2, cc, W2, hrun, ho, hfr⟩ := OwnX.push h.2.1 (u, ⟨ls, st, en⟩) hu1 (by omega) h.2.2.2 hal rfl
  rw [hn] at hrun ho hfr
  exact ⟨a2, cc, W2, hrun, h.step hal hfr ho⟩
theorem Ad.more {w W : World} {a : Option Addr} {n c : Nat} {u : Value} {xs ys : List AlX} {ls : List LbT} (h : Ad w W (.slice a n c) xs u ls) (hn : xs.length = n) (ad : Option Addr) (m d : Nat) (hm : ys.length = m) (hr : RdC w ad (alf ys)) (hnil : ad = none → m = 0 ∧ d = 0) (h1 : ∀ y ∈ ys, y.1.oneCell' = true) (hl : n + m ≤ 1000000) :
    ∃ a3 c3 W3, (Builtin.append_ #[38, 38] 38 #[.slice a n c, .slice ad m d]).run Tryd.prog W = .ok (.slice a3 (n + m) c3) W3 ∧ Ad w W3 (.slice a3 (n + m) c3) (xs ++ ys) u ls := by
  have hrW : RdC W ad (alf ys) := hr.keepI h.1
  obtain ⟨a2, n2, c2, W2, hrun, ho, hfr⟩ := h.2.1.more ad m d hm hrW hnil h1 (by omega) h.2.2.2
  obtain ⟨a', c', e⟩ := ho.shape
  simp only [Value.slice.injEq] at e
  obtain ⟨rfl, e2, rfl⟩ := e
  rw [List.length_append, hn, hm] at e2
  subst e2
  exact ⟨a2, c2, W2, hrun, h.step (gb_refl _ _) hfr ho⟩
set_option maxRecDepth 8000 in
set_option maxHeartbeats 1600000 in
theorem refAdd_any (w : World) (la : Option Addr) (n lc : Nat) (l : List AlX) (M : List AlR) (u : Value) (ls : List LbT) (st en : Int)
    (hl : OwnX w 0 (.slice la n lc) l) (hm : l.map (·.2) = M) (hM : riseA M) (hr : ∀ x ∈ l, RdL w x.1 x.2.lbs) (h1 : ∀ x ∈ l, x.1.oneCell' = true) (hn : n ≤ 1000) (hu : RdL w u ls) (hls : ls.length ≤ 4398046511104) :
    Calls Tryd.prog 45 #[.slice la n lc, .agg #[u, .int .i64 st, .int .i64 en]] w fun e w' => ∃ v' l', e = .returned v' ∧ OwnX w' w.heap.size v' l' ∧ l'.map (·.2) = addA M ⟨ls, st, en⟩ ∧ (∀ x ∈ l', x ∈ l ∨ OwnL w' w.heap.size x.1 x.2.lbs) ∧ w.grownBy w' none := by
  obtain ⟨-, hno, hnl, hnc, hcm⟩ := hl.head 0
  have hlen := len_of_map hm
  obtain ⟨ua, un, uc, rfl⟩ : ∃ a n c, u = .slice a n c := by obtain ⟨a, c, h, _⟩ := hu; exact ⟨_, _, _, h⟩
  obtain ⟨k, hk⟩ : ∃ k, (ltA M ls).length = k := ⟨_, rfl⟩
  obtain ⟨fb, hfb⟩ : ∃ b, (findA M ls).isSome = b := ⟨_, rfl⟩
  have hkn : k ≤ n := by have := ltA_le M ls; omega
  have HFK : Hid (fb = true → k < n) := fun h => by
    have h2 := at_found hM ls
    rw [hfb, h, hk] at h2
    have h3 := h2.symm
    rw [Bool.and_eq_true, decide_eq_true_eq] at h3
    omega
  have HAd : Hid (∀ (x : AlX), x.2 = ⟨ls, st, en⟩ → (l.take k ++ [x] ++ l.drop (if fb = true then k + 1 else k)).map (·.2) = addA M ⟨ls, st, en⟩) := fun x hx => by
    have h := add_list hm hM x
    rw [hx] at h
    simp only at h
    rw [hk, hfb] at h
    exact h
  have HL := hidJ (And.intro hl (And.intro hm (And.intro hr h1)))
  have HU := hidJ (And.intro hu hls)
  have hs1 : ∀ W, (Instr.slice 38 (.slice la n lc) none (some (.int .i64 (k : Int))) none).run Tryd.prog W = .ok (.slice la k lc) W := fun W => run_headX W la n lc k hkn hnc
  have HAt : Hid (∀ C, C = Obj.cells #[.slice ua un uc, .int .i64 st, .int .i64 en] 34 → Calls Tryd.prog 30 #[.slice la n lc, .slice ua un uc] (w.alloc C) fun e w' => e = .returned (.tuple #[.int .i64 (k : Int), .bool fb]) ∧ Hid (w.grownBy w' none ∧ B3 w' w.heap.size 34 (.slice ua un uc) (.int .i64 st) (.int .i64 en))) := by
    rintro C rfl
    have g := World.grownBy_alloc w (.cells #[.slice ua un uc, .int .i64 st, .int .i64 en] 34) none
    have h := refAt_any (w.alloc (.cells #[.slice ua un uc, .int .i64 st, .int .i64 en] 34)) _ _ M ls hM ((hl.rdx hm hr).keep g) (hu.keep g)
    rw [hk, hfb] at h
    refine h.mono ?_
    rintro e w' ⟨rfl, q⟩
    exact ⟨rfl, gb_none g q, (B3.new w 34 _ _ _).keep q⟩
  have HNL := hidJ hnl
  unfold maxLen at hcm
  clear hl hm hM hr h1 hu hls hno hlen hfb hk hnl
  go_enter Tryd.func45, Tryd.ntmps45
  go_wp2_with fail
  refine (HAt.out _ rfl).mono ?_
  rintro e w1 ⟨rfl, H1⟩
  clear HAt
  obtain ⟨d0, d1, d2, -⟩ := H1.out.2.cells
  have HOw : Hid (Calls Tryd.prog 27 #[.slice ua un uc] w1 fun e w' => ∃ xa xn xc, e = .returned (.slice xa xn xc) ∧ w'.cell? ⟨w.heap.size, 0, none⟩ = some (.slice ua un uc) ∧ w'.frozen? ⟨w.heap.size, 0, none⟩ = false ∧ Hid (∀ W, W = w'.setCell ⟨w.heap.size, 0, none⟩ (.slice xa xn xc) → w.grownBy W none ∧ B3 W w.heap.size 34 (.slice xa xn xc) (.int .i64 st) (.int .i64 en) ∧ OwnL W (w.heap.size + 1) (.slice xa xn xc) ls)) := by
    refine (refOwn_any w1 _ ls (HU.out.1.keep H1.out.1) HU.out.2).mono ?_
    rintro e w' ⟨v', rfl, q1, q2⟩
    obtain ⟨xa, xc, e⟩ := q1.shape
    subst e
    have b2 := H1.out.2.keep q2
    have hb0 := some_lt2 H1.out.2
    refine ⟨xa, _, xc, rfl, b2.cells.1, b2.cells.2.2.2.1, ?_⟩
    rintro W rfl
    refine ⟨gb_ch (gb_none H1.out.1 q2) (set_ch _ _ _ _) (fun k e => by omega), ?_, OwnL.mono (base := w1.heap.size) (row_ch q1 (set_ch _ _ _ _) (fun k hk e => by have := (q1.lt k hk).1; omega)) (by omega)⟩
    have h := Go.heap_setCell_same w' w.heap.size 0 _ _ (.slice xa ls.length xc) b2
    unfold B3
    simpa using h
  go_wp2_with fail
  refine HOw.out.mono ?_
  rintro e w2 ⟨xa, xn, xc, rfl, f0, f1, H2⟩
  clear HOw H1 d0 d1 d2
  have HNL2 := HNL.out
  have HA1 : Hid (∃ a2 c2 W2, (Builtin.append_ #[38, 38] 38 #[.slice none 0 0, .slice la k lc]).run Tryd.prog (w2.setCell ⟨w.heap.size, 0, none⟩ (.slice xa xn xc)) = .ok (.slice a2 k c2) W2 ∧ B3 W2 w.heap.size 34 (.slice xa xn xc) (.int .i64 st) (.int .i64 en) ∧ ∃ a3 c3 W3, (Builtin.append_ #[38, 38] 38 #[.slice a2 k c2, .slice (some ⟨W2.heap.size, 0, none⟩) 1 1]).run Tryd.prog (W2.alloc (.cells #[.slice xa xn xc, .int .i64 st, .int .i64 en] 34)) = .ok (.slice a3 (k + 1) c3) W3 ∧ Ad w W3 (.slice a3 (k + 1) c3) (l.take k ++ [(.slice xa xn xc, ⟨ls, st, en⟩)]) (.slice xa xn xc) ls) := by
    obtain ⟨g, b, o⟩ := H2.out _ rfl
    generalize w2.setCell ⟨w.heap.size, 0, none⟩ (.slice xa xn xc) = W at g b o ⊢
    have hkk : (l.take k).length = k := by rw [List.length_take]; omega
    have hd := HL.out.1.head k
    have hws := some_lt2 b
    have A0 : Ad w W (.slice none 0 0) [] (.slice xa xn xc) ls := ⟨g, OwnX.nil _ _, o, by omega⟩
    obtain ⟨a2, c2, W2, q1, q2⟩ := A0.more rfl la k lc hkk hd.1 (fun h => by have := hd.2.1 h; omega) (fun x hx => HL.out.2.2.2 x (List.mem_of_mem_take hx)) (by omega)
    rw [Nat.zero_add] at q1 q2
    rw [List.nil_append] at q2
    obtain ⟨a3, c3, W3, q3, q4⟩ := q2.push hkk st en (by omega)
    have hb2 : B3 W2 w.heap.size 34 (.slice xa xn xc) (.int .i64 st) (.int .i64 en) := by
      obtain ⟨a2', n2', c2', W2', q1', q2', q3'⟩ := (OwnX.nil W (w.heap.size + 1)).more la k lc hkk (hd.1.keepI g) (fun h => by have := hd.2.1 h; omega) (fun x hx => HL.out.2.2.2 x (List.mem_of_mem_take hx)) (by simp; omega) (by omega)
      rw [q1] at q1'
      injection q1' with e1 e2
      subst e2
      exact b.keep q3'.1
    exact ⟨a2, c2, W2, q1, hb2, a3, c3, W3, q3, q4⟩
  obtain ⟨a2, c2, W2, r1, hb2, a3, c3, W3, r2, hA⟩ := HA1.out
  have H3 := hidJ hA
  clear HA1 H2 hA
  obtain ⟨d0, d1, d2, -⟩ := hb2.cells
  clear hb2
  have HT3 : ∀ k3, k3 ≤ n → Hid (∃ a' a4 c4 W4, (∀ W, (Instr.slice 38 (.slice la n lc) (some (.int .i64 (k3 : Int))) none none).run Tryd.prog W = .ok (.slice a' (n - k3) (lc - k3)) W) ∧ (Builtin.append_ #[38, 38] 38 #[.slice a3 (k + 1) c3, .slice a' (n - k3) (lc - k3)]).run Tryd.prog W3 = .ok (.slice a4 (k + 1 + (n - k3)) c4) W4 ∧ Ad w W4 (.slice a4 (k + 1 + (n - k3)) c4) (l.take k ++ [(.slice xa xn xc, ⟨ls, st, en⟩)] ++ l.drop k3) (.slice xa xn xc) ls) := by
    intro k3 hk3
    obtain ⟨a', t1, t2, t3⟩ := HL.out.1.tail k3 hk3
    have hlen3 : (l.take k ++ [((Value.slice xa xn xc), (⟨ls, st, en⟩ : AlR))]).length = k + 1 := by
      rw [List.length_append, List.length_take]
      simp
      omega
    obtain ⟨a4, c4, W4, q1, q2⟩ := H3.out.more hlen3 a' (n - k3) (lc - k3) (ys := l.drop k3) (by rw [List.length_drop]; omega) t2 t3 (fun x hx => HL.out.2.2.2 x (List.mem_of_mem_drop hx)) (by omega)
    exact ⟨a', a4, c4, W4, t1, q1, q2⟩
  have HFin : Hid (∀ k3 v4 W4, k3 = (if fb = true then k + 1 else k) → Ad w W4 v4 (l.take k ++ [(.slice xa xn xc, ⟨ls, st, en⟩)] ++ l.drop k3) (.slice xa xn xc) ls → ∃ v' l', (Ending.returned v4) = .returned v' ∧ OwnX W4 w.heap.size v' l' ∧ l'.map (·.2) = addA M ⟨ls, st, en⟩ ∧ (∀ x ∈ l', x ∈ l ∨ OwnL W4 w.heap.size x.1 x.2.lbs) ∧ w.grownBy W4 none) := by
    rintro k3 v4 W4 rfl hA
    refine ⟨v4, _, rfl, hA.2.1.mono (by omega), HAd.out _ rfl, fun x hx => ?_, hA.1⟩
    rcases List.mem_append.1 hx with hx | hx
    · rcases List.mem_append.1 hx with hx | hx
      · exact .inl (List.mem_of_mem_take hx)
      · rw [List.mem_singleton] at hx
        subst hx
        exact .inr (hA.2.2.1.mono (by omega))
    · exact .inl (List.mem_of_mem_drop hx)
  clear HNL2 HAd HL HU H3
  cases fb with
  | true =>
    have hk3 := HFK.out rfl
    obtain ⟨a', a4, c4, W4, t1, t2, t3⟩ := (HT3 (k + 1) (by omega)).out
    have HFn := hidJ (HFin.out (k + 1) _ W4 (by simp) t3)
    clear HT3 HFin t3 HFK HNL hk3
    obtain ⟨k1, hk1⟩ : ∃ k1, k + 1 = k1 := ⟨_, rfl⟩
    have hk1i : (k : Int) + 1 = (k1 : Int) := by omega
    rw [hk1] at r2 t1 t2 HFn
    clear hk1
    go_wp2_with (first
      | (at_builtin; refine wp_appRun rfl (.tmp 19) (.tmp 22) 38 rfl _ _ _ rfl rfl r1 ?_)
      | (at_builtin; refine wp_appRun rfl (.tmp 24) (.tmp 26) 38 rfl _ _ _ rfl rfl r2 ?_)
      | (at_builtin; refine wp_appRun rfl (.tmp 31) (.tmp 34) 38 rfl _ _ _ rfl rfl t2 ?_))
    go_ret
    exact HFn.out
  | false =>
    obtain ⟨a', a4, c4, W4, t1, t2, t3⟩ := (HT3 k hkn).out
    have HFn := hidJ (HFin.out k _ W4 (by simp) t3)
    clear HT3 HFin t3 HFK HNL
    go_wp2_with (first
      | (at_builtin; refine wp_appRun rfl (.tmp 19) (.tmp 22) 38 rfl _ _ _ rfl rfl r1 ?_)
      | (at_builtin; refine wp_appRun rfl (.tmp 24) (.tmp 26) 38 rfl _ _ _ rfl rfl r2 ?_)
      | (at_builtin; refine wp_appRun rfl (.tmp 31) (.tmp 34) 38 rfl _ _ _ rfl rfl t2 ?_))
    go_ret
    exact HFn.out
end Go.Proofs.YtmgbcmogdjhacaaDoor

/- Aly -/
namespace Go.Proofs.YtmgbcmogdjhacaaDoor
open Go.RowKit Go.Shelf Go.Sort Go.Maps Go.WideMaps

/-- the document's alerts in memory -/
structure RefA (W : World) (T : Nat → Prop) (gr : Nat) (R most : Int) (M : List AlR) (v : Value) (l : List AlX) : Prop where
  box : B3 W gr 40 (.int .i64 R) (.int .i64 most) v
  row : OwnX W 0 v l
  map : l.map (·.2) = M
  each : ∀ x ∈ l, Rl W T x.1 x.2.lbs
  inB : T gr
  inR : ∀ k, v.ownBlock = some k → T k
  lt : ∀ k, T k → k < W.heap.size
def RefOK (W : World) (T : Nat → Prop) (gr : Nat) (R most : Int) (M : List AlR) : Prop := ∃ v l, RefA W T gr R most M v l
theorem RefA.frame {W W' : World} {T U : Nat → Prop} {gr : Nat} {R most : Int} {M : List AlR} {v : Value} {l : List AlX} (h : RefA W T gr R most M v l) (hc : Ch W W' U) (hT : ∀ k, T k → ¬ U k) : RefA W' T gr R most M v l where
  box := h.box.ch hc (hT _ h.inB)
  row := row_ch h.row hc (fun k hk => hT k (h.inR k hk))
  map := h.map
  each := fun x hx => (h.each x hx).frame hc (fun k _ hk => hT k hk)
  inB := h.inB
  inR := h.inR
  lt := fun k hk => Nat.lt_of_lt_of_le (h.lt k hk) hc.size
theorem RefA.keep {W W' : World} {T : Nat → Prop} {gr : Nat} {R most : Int} {M : List AlR} {v : Value} {l : List AlX} (h : RefA W T gr R most M v l) (hg : W.grownBy W' none) : RefA W' T gr R most M v l :=
  h.frame (U := fun _ => False) (Ch.of_gb hg (fun k hk => by cases hk)) (fun _ _ e => e)
theorem RefOK.frame {W W' : World} {T U : Nat → Prop} {gr : Nat} {R most : Int} {M : List AlR} (h : RefOK W T gr R most M) (hc : Ch W W' U) (hT : ∀ k, T k → ¬ U k) : RefOK W' T gr R most M := by
  obtain ⟨v, l, h⟩ := h
  exact ⟨v, l, h.frame hc hT⟩
theorem RefOK.keep {W W' : World} {T : Nat → Prop} {gr : Nat} {R most : Int} {M : List AlR} (h : RefOK W T gr R most M) (hg : W.grownBy W' none) : RefOK W' T gr R most M := by
  obtain ⟨v, l, h⟩ := h
  exact ⟨v, l, h.keep hg⟩
theorem RefA.rdx {W : World} {T : Nat → Prop} {gr : Nat} {R most : Int} {M : List AlR} {v : Value} {l : List AlX} (h : RefA W T gr R most M v l) : RdX W v M := h.row.rdx h.map (fun x hx => (h.each x hx).1)
theorem RefA.shape {W : World} {T : Nat → Prop} {gr : Nat} {R most : Int} {M : List AlR} {v : Value} {l : List AlX} (h : RefA W T gr R most M v l) : ∃ a c, v = .slice a M.length c := by
  obtain ⟨a, c, e⟩ := h.row.shape
  rw [len_of_map h.map] at e
  exact ⟨a, c, e⟩
/-- another row in the box -/
theorem RefA.set {W W1 : World} {T : Nat → Prop} {gr : Nat} {R most : Int} {M M' : List AlR} {v v' : Value} {l l' : List AlX} (h : RefA W T gr R most M v l) (hg : W.grownBy W1 none) (ho : OwnX W1 W.heap.size v' l') (hm : l'.map (·.2) = M') (he : ∀ x ∈ l', x ∈ l ∨ OwnL W1 W.heap.size x.1 x.2.lbs) :
    RefA (W1.setCell ⟨gr, 2, none⟩ v') (Gr T W W1) gr R most M' v' l' ∧ Ch W (W1.setCell ⟨gr, 2, none⟩ v') (fun k => k = gr) ∧ (W1.setCell ⟨gr, 2, none⟩ v').heap.size = W1.heap.size := by
  have hgr := h.lt gr h.inB
  have hsz := hg.size
  have hc := set_ch W1 gr 2 v'
  have hz : (W1.setCell ⟨gr, 2, none⟩ v').heap.size = W1.heap.size := by simp
  have b1 := h.box.keep hg
  refine ⟨⟨?_, ?_, hm, fun x hx => ?_, .inl h.inB, fun k hk => .inr (ho.lt k hk), fun k hk => ?_⟩, ?_, hz⟩
  · have h2 := Go.heap_setCell_same W1 gr 2 _ _ v' b1
    unfold B3
    simpa using h2
  · exact OwnX.mono (row_ch ho hc (fun k hk e => by have := (ho.lt k hk).1; omega)) (Nat.zero_le _)
  · rcases he x hx with hx' | hx'
    · have r1 : Rl W1 T x.1 x.2.lbs := (h.each x hx').frame (T := fun _ => False) (Ch.of_gb hg (fun k hk => by cases hk)) (fun _ _ _ e => e)
      have r2 : Rl (W1.setCell ⟨gr, 2, none⟩ v') (fun k => T k ∧ k ≠ gr) x.1 x.2.lbs := by
        have r3 : Rl W1 (fun k => T k ∧ k ≠ gr) x.1 x.2.lbs := ⟨r1.1, fun k hk => ⟨⟨(r1.2 k hk).1, fun e => by
          obtain ⟨cur, fr, hb⟩ := (r1.2 k hk).2
          rw [e] at hb
          rw [b1] at hb
          simp at hb⟩, (r1.2 k hk).2⟩⟩
        exact r3.frame hc (fun k _ hk e => hk.2 e)
      exact r2.mono (fun k _ hk => .inl hk.1)
    · have r2 : OwnL (W1.setCell ⟨gr, 2, none⟩ v') W.heap.size x.1 x.2.lbs := row_ch hx' hc (fun k hk e => by have := (hx'.lt k hk).1; omega)
      exact r2.rl (fun k hk => .inr (hx'.lt k hk))
  · rw [hz]
    rcases hk with hk | hk
    · have := h.lt k hk; omega
    · exact hk.2
  · exact (Ch.of_gb (S := fun k => k = gr) hg (fun k hk => by cases hk)).trans hc (fun _ _ e => e)
set_option maxHeartbeats 1600000 in
theorem refNewOK_any (w : World) (R most : Int) (h : newOk R most) :
    Calls Tryd.prog 8 #[.int .i64 R, .int .i64 most] w fun e w' => e = .returned (.pointer (some ⟨w.heap.size, 0, none⟩)) ∧ RefOK w' (fun k => k = w.heap.size) w.heap.size R most [] ∧ w.grownBy w' none := by
  obtain ⟨⟨h1, h2⟩, h3, h4⟩ := h
  have n1 : ¬ R < 1 := by omega
  have n2 : ¬ 1099511627776 < R := by omega
  have n3 : ¬ most < 1 := by omega
  have n4 : ¬ 500 < most := by omega
  have HF : Hid (RefOK (w.alloc (.cells #[.int .i64 R, .int .i64 most, .slice none 0 0] 40)) (fun k => k = w.heap.size) w.heap.size R most [] ∧ w.grownBy (w.alloc (.cells #[.int .i64 R, .int .i64 most, .slice none 0 0] 40)) none) := by
    refine ⟨⟨.slice none 0 0, [], ⟨B3.new w _ _ _ _, OwnX.nil _ _, rfl, fun x hx => (by cases hx), rfl, fun k hk => (by cases hk), fun k hk => by rw [hk]; simp⟩⟩, World.grownBy_alloc w _ none⟩
  clear h1 h2 h3 h4
  go_enter Tryd.func8, Tryd.ntmps8
  go_wp2
  go_ret
  exact ⟨rfl, HF.out⟩
set_option maxHeartbeats 1600000 in
theorem refNewBad_any (w : World) (R most : Int) (h : ¬ newOk R most) :
    Calls Tryd.prog 8 #[.int .i64 R, .int .i64 most] w fun e w' => e = .returned (.pointer none) ∧ w.grownBy w' none := by
  unfold newOk at h
  by_cases h1 : R < 1
  · clear h
    go_enter Tryd.func8, Tryd.ntmps8
    go_wp2
    go_ret
    exact ⟨rfl, gb_refl _ _⟩
  · by_cases h2 : 1099511627776 < R
    · clear h
      go_enter Tryd.func8, Tryd.ntmps8
      go_wp2
      go_ret
      exact ⟨rfl, gb_refl _ _⟩
    · by_cases h3 : most < 1
      · clear h
        go_enter Tryd.func8, Tryd.ntmps8
        go_wp2
        go_ret
        exact ⟨rfl, gb_refl _ _⟩
      · have h4 : 500 < most := Decidable.byContradiction fun f => h ⟨⟨by omega, by omega⟩, by omega, by omega⟩
        clear h
        go_enter Tryd.func8, Tryd.ntmps8
        go_wp2
        go_ret
        exact ⟨rfl, gb_refl _ _⟩
/-- a row of some of its alerts, being made -/
def PkJ (W : World) (l : List AlX) (p : AlR → Bool) (z : Nat) (v : Value) (wr : World) : Prop := W.grownBy wr none ∧ OwnX wr W.heap.size v ((l.take z).filter fun x => p x.2)
theorem PkJ.skip {W wr : World} {l : List AlX} {p : AlR → Bool} {z : Nat} {v : Value} (h : PkJ W l p z v wr) (hz : z < l.length) (hp : p (l.getD z xZ).2 = false) : PkJ W l p (z + 1) v wr := by
  refine ⟨h.1, ?_⟩
  rw [List.take_succ_eq_append_getElem hz, List.filter_append]
  have e : l[z] = l.getD z xZ := by simp [List.getD, hz]
  rw [e]
  simp only [List.filter_cons, hp, Bool.false_eq_true, if_false, List.filter_nil, List.append_nil]
  exact h.2
theorem PkJ.take {W wr : World} {l : List AlX} {p : AlR → Bool} {z : Nat} {v : Value} (h : PkJ W l p z v wr) (hz : z < l.length) (hl : l.length ≤ 1000) (h1 : (l.getD z xZ).1.oneCell' = true) (hp : p (l.getD z xZ).2 = true) :
    ∃ a n c a3 n3 c3 W3, v = .slice a n c ∧ (Builtin.append_ #[38, 38] 38 #[.slice a n c, .slice (some ⟨wr.heap.size, 0, none⟩) 1 1]).run Tryd.prog (wr.alloc (.cells #[(l.getD z xZ).1, .int .i64 (l.getD z xZ).2.st, .int .i64 (l.getD z xZ).2.en] 34)) = .ok (.slice a3 n3 c3) W3 ∧ PkJ W l p (z + 1) (.slice a3 n3 c3) W3 := by
  have hal := World.grownBy_alloc wr (.cells #[(l.getD z xZ).1, .int .i64 (l.getD z xZ).2.st, .int .i64 (l.getD z xZ).2.en] 34) none
  have hlen : ((l.take z).filter fun x => p x.2).length ≤ 1000 := by
    have := List.length_filter_le (fun x : AlX => p x.2) (l.take z)
    rw [List.length_take] at this
    omega
  obtain ⟨a2, cc, W2, hrun, ho, hfr⟩ := OwnX.push h.2 (l.getD z xZ) h1 (by omega) h.1.size hal rfl
  obtain ⟨a, c, e⟩ := h.2.shape
  subst e
  refine ⟨a, _, c, a2, _, cc, W2, rfl, hrun, ?_, ?_⟩
  · have k1 : Ch wr W2 (fun k => (Value.slice a ((l.take z).filter fun x => p x.2).length c).ownBlock = some k) := (Ch.of_gb (S := fun k => (Value.slice a ((l.take z).filter fun x => p x.2).length c).ownBlock = some k) hal (fun k hk => by cases hk)).trans (Ch.of_gb (S := fun k => (Value.slice a ((l.take z).filter fun x => p x.2).length c).ownBlock = some k) hfr.1 (fun k hk _ => hk)) (fun _ _ e => e)
    exact gb_ch h.1 k1 (fun k e => (h.2.lt k e).1)
  · rw [List.take_succ_eq_append_getElem hz, List.filter_append]
    have e : l[z] = l.getD z xZ := by simp [List.getD, hz]
    rw [e]
    simp only [List.filter_cons, hp, if_true, List.filter_nil]
    exact ho
theorem pk_map {l : List AlX} {M : List AlR} (hm : l.map (·.2) = M) (p : AlR → Bool) : (l.filter fun x => p x.2).map (·.2) = M.filter p := by
  rw [← hm, List.filter_map]
  rfl
end Go.Proofs.YtmgbcmogdjhacaaDoor
