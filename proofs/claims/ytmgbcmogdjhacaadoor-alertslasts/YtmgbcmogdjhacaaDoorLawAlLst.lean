/-
  AlertsLasts: an alert that comes again and again without an end: the walk of the law.
-/
import Derived.Test.YtmgbcmogdjhacaaDoorVD
namespace Go.Proofs.YtmgbcmogdjhacaaDoor
open Go.RowKit Go.Shelf Go.Sort Go.Maps Go.WideMaps

theorem lastBad {R : Int} {ls : List LbT} (h : (rightS ls).1 ≠ 0 ∨ ls = []) : putE R 3 5 ⟨ls, 0, 0⟩ [] = 41 := by
  have hd : dateE R 5 ⟨ls, 0, 0⟩ = 41 := by
    unfold dateE
    rw [if_neg (by unfold isT; omega), if_pos h]
  unfold putE
  rw [hd]
  rfl
theorem lastPut {R now : Int} {ls : List LbT} {M : List AlR} (hR : 2 ≤ R ∧ R ≤ 1073741824) (hn : 1 ≤ now ∧ now ≤ 60000000000) (hr : (rightS ls).1 = 0) (hne : ls ≠ []) (hM : (M = [] ∧ now = 1) ∨ ∃ e, M = [⟨ls, 1, e⟩] ∧ now < e) :
    putE R 3 now ⟨ls, 0, 0⟩ M = 0 ∧ putM R 3 now ⟨ls, 0, 0⟩ M = [⟨ls, 1, now + R⟩] := by
  have hd : dateE R now ⟨ls, 0, 0⟩ = 0 := by
    unfold dateE
    rw [if_neg (by unfold isT; omega), if_neg (by rintro (h | h); exact h hr; exact hne h), if_neg (by unfold isB; simp), if_neg (by unfold enD stD; simp; omega)]
  rcases hM with ⟨rfl, rfl⟩ | ⟨e, rfl, he⟩
  · have hE : putE R 3 1 ⟨ls, 0, 0⟩ [] = 0 := by unfold putE; rw [if_neg (by simpa using hd), if_neg (by simp)]
    refine ⟨hE, ?_⟩
    unfold putM
    rw [if_pos hE]
    rfl
  · have hf : findA [⟨ls, 1, e⟩] ls = some ⟨ls, 1, e⟩ := by unfold findA; simp
    have hE : putE R 3 now ⟨ls, 0, 0⟩ [⟨ls, 1, e⟩] = 0 := by unfold putE; rw [if_neg (by simpa using hd), if_neg (by rw [hf]; simp)]
    refine ⟨hE, ?_⟩
    unfold putM
    rw [if_pos hE]
    have hn' : newA R now ⟨ls, 0, 0⟩ [⟨ls, 1, e⟩] = ⟨ls, 1, now + R⟩ := by
      unfold newA
      simp only [hf]
      have e1 : stD now ⟨ls, 0, 0⟩ = now := rfl
      have e2 : enD R now ⟨ls, 0, 0⟩ = now + R := rfl
      rw [e1, e2]
      by_cases h1 : 1 < now
      · rw [if_pos ⟨he, h1⟩]
      · rw [if_neg (fun h => h1 h.2), show now = 1 by omega]
    rw [hn']
    unfold addA ltA gtA
    have hz : cmpLs ls ls = 0 := (cmpLs_zero _ _).2 rfl
    simp [hz]
theorem lastGet (ls : List LbT) (e : Int) : getA [⟨ls, 1, e⟩] ls = ⟨ls, 1, e⟩ ∧ (findA [⟨ls, 1, e⟩] ls).isSome = true := by
  have hf : findA [⟨ls, 1, e⟩] ls = some ⟨ls, 1, e⟩ := by unfold findA; simp
  unfold getA
  rw [hf]
  exact ⟨rfl, rfl⟩
theorem lastFire (ls : List LbT) (e t : Int) (h1 : 1 ≤ t) (h2 : t < e) : fireM t [⟨ls, 1, e⟩] = [⟨ls, 1, e⟩] := by
  unfold fireM
  simp [h1, h2]
theorem lastFire0 (ls : List LbT) (e t : Int) (h2 : ¬ t < e) : fireM t [⟨ls, 1, e⟩] = [] := by
  unfold fireM
  simp
  omega
/-- between two rounds -/
def LsJ (w : World) (gx : Nat) (R : Int) (ls : List LbT) (nz : Int) (wr : World) : Prop := ∃ S M, SetB wr S gx R 3 M ∧ (∀ k, S k → w.heap.size ≤ k) ∧ w.grownBy wr none ∧ ((M = [] ∧ nz = 1) ∨ ∃ e, M = [⟨ls, 1, e⟩] ∧ nz < e)
theorem LsJ.gb {w : World} {gx : Nat} {R : Int} {ls : List LbT} {nz : Int} {wr : World} (h : LsJ w gx R ls nz wr) : w.grownBy wr none := by
  obtain ⟨S, M, -, -, h, -⟩ := h
  exact h
/-- in a round, behind Put -/
def LsK (w : World) (gx : Nat) (R : Int) (ls : List LbT) (nz : Int) (wr : World) : Prop := ∃ S, SetB wr S gx R 3 [⟨ls, 1, nz + R⟩] ∧ (∀ k, S k → w.heap.size ≤ k) ∧ w.grownBy wr none
theorem LsK.keep {w : World} {gx : Nat} {R : Int} {ls : List LbT} {nz : Int} {wr W : World} (h : LsK w gx R ls nz wr) (hg : wr.grownBy W none) : LsK w gx R ls nz W := by
  obtain ⟨S, h1, h2, h3⟩ := h
  exact ⟨S, h1.keep hg, h2, gb_none h3 hg⟩
theorem LsK.gb {w : World} {gx : Nat} {R : Int} {ls : List LbT} {nz : Int} {wr : World} (h : LsK w gx R ls nz wr) : w.grownBy wr none := by
  obtain ⟨S, -, -, h⟩ := h
  exact h
theorem lsFire {w : World} {gx : Nat} {R : Int} {ls : List LbT} {nz t : Int} {n : Nat} {W : World} (h : LsK w gx R ls nz W) (hn : (fireM t [⟨ls, 1, nz + R⟩]).length = n) :
    Calls Tryd.prog 21 #[.pointer (some ⟨gx, 0, none⟩), .int .i64 t] W fun e w' => ∃ a c, e = .returned (.slice a n c) ∧ Hid (LsK w gx R ls nz w') := by
  obtain ⟨S, h1, h2, h3⟩ := h
  refine (firing_any W (.pointer (some ⟨gx, 0, none⟩)) t _ ⟨_, rfl⟩ h1.ptr).mono ?_
  rintro e w' ⟨v', l, rfl, t1, t2, t3, t4⟩
  obtain ⟨a, c, rfl⟩ := t1.shape
  rw [len_of_map t2, hn]
  exact ⟨a, c, rfl, S, h1.keep t4, h2, gb_none h3 t4⟩
/-- numbers among the arguments -/
def RdI (w : World) (v : Value) (l : List Int) : Prop := ∃ a c, v = .slice a l.length c ∧ l.length ≤ 9223372036854775807 ∧ ∀ j, j < l.length → ∃ b o, a = some ⟨b, o, none⟩ ∧ w.cell? ⟨b, o + j, none⟩ = some (.int .i64 (l.getD j 0))

set_option maxRecDepth 8000 in
set_option maxHeartbeats 12800000 in
theorem alLast_walk (w : World) (rs : Int) (u : Value) (ls : List LbT) (v : Value) (steps : List Int) (hu : RdL w u ls) (hl : LbIn ls) (hv : RdI w v steps) (hT : U8S w) :
    Calls Tryd.prog 5 #[.int .i64 rs, u, v] w fun e w' => e = .returned (.bool true) ∧ Below w.heap.size w w' := by
  obtain ⟨a, c, rfl⟩ : ∃ a c, u = .slice a ls.length c := by obtain ⟨a, c, h, _⟩ := hu; exact ⟨a, c, h⟩
  obtain ⟨va, vc, rfl, hvl, hvc⟩ := hv
  obtain ⟨N, hN⟩ : ∃ N, ls.length = N := ⟨_, rfl⟩
  obtain ⟨K, hK⟩ : ∃ K, steps.length = K := ⟨_, rfl⟩
  obtain ⟨r1, hr1⟩ : ∃ r1, (rightS ls).1 = r1 := ⟨_, rfl⟩
  obtain ⟨r2, hr2⟩ : ∃ r2, (rightS ls).2 = r2 := ⟨_, rfl⟩
  rw [hN] at hu ⊢
  rw [hK] at hvl hvc ⊢
  have HU := hidJ (And.intro hu (And.intro hl hT))
  have HN := hidJ hN
  have HR := hidJ (And.intro hr1 hr2)
  have HST : Hid (steps.length = K ∧ ∀ W, w.grownBy W none → ∀ j, j < K → ∃ b o, va = some ⟨b, o, none⟩ ∧ W.cell? ⟨b, o + j, none⟩ = some (.int .i64 (steps.getD j 0))) := ⟨hK, fun W hW j hj => by
    obtain ⟨b, o, e, h⟩ := hvc j hj
    exact ⟨b, o, e, cell_keep h hW⟩⟩
  clear hu hl hT hN hK hr1 hr2 hvc
  by_cases hin : 2 ≤ rs ∧ rs ≤ 1073741824
  · obtain ⟨hi1, hi2⟩ := hin
    have hc1 : ¬ rs < 2 := by omega
    have hc2 : ¬ 1073741824 < rs := by omega
    go_enter Tryd.func5, Tryd.ntmps5
    have HNw := hidJ (setB_new w rs 3 ⟨⟨by omega, by omega⟩, by omega, by omega⟩)
    go_wp2_with fail
    refine HNw.out.mono ?_
    rintro e w1 ⟨gx, rfl, q1, q2⟩
    have H1 := hidJ (And.intro q1 q2)
    clear HNw q1 q2
    have HRr : Hid (Calls Tryd.prog 20 #[.slice a N c] w1 fun e w' => e = .returned (.tuple #[.int .i64 r1, .int .i64 (r2 : Int)]) ∧ Hid (w.grownBy w' none ∧ SetB w' (fun k => w.heap.size ≤ k ∧ k < w1.heap.size) gx rs 3 [])) := by
      have := refRight_any w1 _ ls (HU.out.1.keep H1.out.2) HU.out.2.1
      rw [HR.out.1, HR.out.2] at this
      exact this.mono fun e w' ⟨h1, h2⟩ => ⟨h1, gb_none H1.out.2 h2, H1.out.1.keep h2⟩
    go_wp2_with fail
    refine HRr.out.mono ?_
    rintro e w2 ⟨rfl, H2⟩
    clear HRr
    have HK : Hid (∀ W, w.grownBy W none → Calls Tryd.prog 9 #[] W fun e w' => e = .returned (.bool true) ∧ Hid (w.grownBy w' none)) := fun W hW => (known_any W (HU.out.2.2.keep hW)).mono fun e w' ⟨h1, h2⟩ => ⟨h1, gb_none hW h2⟩
    by_cases hbad : r1 ≠ 0 ∨ N = 0
    · have HPb : Hid (Calls Tryd.prog 17 #[.pointer (some ⟨gx, 0, none⟩), .int .i64 5, .agg #[.slice a N c, .int .i64 0, .int .i64 0]] w2 fun e w' => e = .returned (.int .i64 41) ∧ Hid (w.grownBy w' none)) := by
        have hp := setB_put w2 _ gx rs 3 5 0 0 [] (.slice a ls.length c) ls H2.out.2 (by have := HU.out.1.keep H2.out.1; rw [HN.out]; exact this) HU.out.2.1 (HU.out.2.2.keep H2.out.1)
        rw [HN.out] at hp
        have e1 : putE rs 3 5 ⟨ls, 0, 0⟩ [] = 41 := lastBad (by
          rcases hbad with h | h
          · left; rw [HR.out.1]; exact h
          · right; exact List.eq_nil_of_length_eq_zero (by rw [HN.out]; exact h))
        rw [e1] at hp
        exact hp.mono fun e w' ⟨h1, h2, h3⟩ => ⟨h1, gb_ch H2.out.1 h3 (fun k hk => hk.1)⟩
      clear H1 H2 HU HR HN HST
      by_cases hr0 : r1 = 0
      · have hN0 : N = 0 := by omega
        subst hN0
        subst hr0
        clear hbad
        go_wp2_with fail
        refine HPb.out.mono ?_
        rintro e w3 ⟨rfl, H3⟩
        clear HPb
        go_wp2_with fail
        refine (HK.out _ H3.out).mono ?_
        rintro e w4 ⟨rfl, H4⟩
        clear HK H3
        go_wp2
        go_ret
        exact ⟨rfl, gb_below H4.out⟩
      · have hrb : (r1 == 0) = false := by rw [beq_eq_false_iff_ne]; exact hr0
        clear hbad
        go_wp2_with fail
        refine HPb.out.mono ?_
        rintro e w3 ⟨rfl, H3⟩
        clear HPb
        go_wp2_with fail
        refine (HK.out _ H3.out).mono ?_
        rintro e w4 ⟨rfl, H4⟩
        clear HK H3
        go_wp2
        go_ret
        exact ⟨rfl, gb_below H4.out⟩
    · have hr0 : r1 = 0 := by omega
      subst hr0
      have hN0 : ((N : Int) == 0) = false := by rw [beq_eq_false_iff_ne]; omega
      have HRT : Hid ((rightS ls).1 = 0 ∧ ls ≠ []) := ⟨HR.out.1, fun e => hbad (.inr (by rw [← HN.out, e]; rfl))⟩
      have HSt : Hid (LsJ w gx rs ls 1 w2) := ⟨_, [], H2.out.2, fun k hk => hk.1, H2.out.1, .inl ⟨rfl, rfl⟩⟩
      clear hbad H1 H2
      go_wp2_with fail
      go_loopw [10, 12] (fun nw i wr => ∃ (z : Nat) (nz : Int), z ≤ K ∧ z ≤ 50 ∧ i = .int .i64 z ∧ nw = .int .i64 nz ∧ 1 ≤ nz ∧ nz ≤ 1 + (z : Int) * 1073741824 ∧ Hid (LsJ w gx rs ls nz wr)) (fun _ i _ => 50 - (intOf i).toNat)
      case atStart => exact ⟨0, 1, by omega, by omega, rfl, rfl, by omega, by omega, HSt.out⟩
      case round =>
        obtain ⟨z, nz, hzK, hz50, rfl, rfl, hn1, hn2, HJ⟩ := hrel
        by_cases hzl : z < K
        · have hzi : (z : Int) < (K : Int) := by omega
          by_cases hzf : z < 50
          · have hzj : (z : Int) < 50 := by omega
            have hnz : nz ≤ 60000000000 := by omega
            have HPu : Hid (Calls Tryd.prog 17 #[.pointer (some ⟨gx, 0, none⟩), .int .i64 nz, .agg #[.slice a N c, .int .i64 0, .int .i64 0]] wr fun e w' => e = .returned (.int .i64 0) ∧ Hid (LsK w gx rs ls nz w')) := by
              obtain ⟨S, M, j1, j2, j3, j4⟩ := HJ.out
              have hp := setB_put wr S gx rs 3 nz 0 0 M (.slice a ls.length c) ls j1 (by have := HU.out.1.keep j3; rw [HN.out]; exact this) HU.out.2.1 (HU.out.2.2.keep j3)
              obtain ⟨m1, m2⟩ := lastPut (R := rs) (now := nz) ⟨by omega, by omega⟩ ⟨by omega, by omega⟩ HRT.out.1 HRT.out.2 j4
              rw [HN.out, m1, m2] at hp
              refine hp.mono ?_
              rintro e w' ⟨h1, h2, h3⟩
              exact ⟨h1, _, h2, fun k hk => by rcases hk with hk | hk; exact j2 k hk; exact Nat.le_trans j3.size hk.1, gb_ch j3 h3 j2⟩
            go_wp2_with fail
            refine HPu.out.mono ?_
            rintro e w3 ⟨rfl, H3⟩
            clear HPu HJ
            have HGe : Hid (Calls Tryd.prog 16 #[.pointer (some ⟨gx, 0, none⟩), .slice a N c] w3 fun e w' => ∃ a1 n1 c1, e = .returned (.tuple #[.agg #[.slice a1 n1 c1, .int .i64 1, .int .i64 (nz + rs)], .bool true]) ∧ Hid (LsK w gx rs ls nz w')) := by
              obtain ⟨S, j1, j2, j3⟩ := H3.out
              have hp := get_any w3 S gx rs 3 _ (.slice a ls.length c) ls j1.1 (by have := HU.out.1.keep j3; rw [HN.out]; exact this) HU.out.2.1 (HU.out.2.2.keep j3)
              rw [(lastGet ls (nz + rs)).1, (lastGet ls (nz + rs)).2, HN.out] at hp
              refine hp.mono ?_
              rintro e w' ⟨v', rfl, t1, t2⟩
              obtain ⟨a1, c1, rfl⟩ := t1.shape
              exact ⟨a1, _, c1, rfl, S, j1.keep t2, j2, gb_none j3 t2⟩
            go_wp2_with fail
            refine HGe.out.mono ?_
            rintro e w4 ⟨a4, n4, c4, rfl, H4⟩
            clear HGe H3
            have HF1 : Hid (∀ C, Calls Tryd.prog 21 #[.pointer (some ⟨gx, 0, none⟩), .int .i64 nz] (w4.alloc C) fun e w' => ∃ a c, e = .returned (.slice a 1 c) ∧ Hid (LsK w gx rs ls nz w')) := fun C => lsFire (H4.out.keep (World.grownBy_alloc w4 C none)) (by rw [lastFire ls _ _ (by omega) (by omega)]; rfl)
            have HF2 : Hid (∀ W, LsK w gx rs ls nz W → Calls Tryd.prog 21 #[.pointer (some ⟨gx, 0, none⟩), .int .i64 (nz + rs - 1)] W fun e w' => ∃ a c, e = .returned (.slice a 1 c) ∧ Hid (LsK w gx rs ls nz w')) := fun W hW => lsFire hW (by rw [lastFire ls _ _ (by omega) (by omega)]; rfl)
            have HF3 : Hid (∀ W, LsK w gx rs ls nz W → Calls Tryd.prog 21 #[.pointer (some ⟨gx, 0, none⟩), .int .i64 (nz + rs)] W fun e w' => ∃ a c, e = .returned (.slice a 0 c) ∧ Hid (LsK w gx rs ls nz w')) := fun W hW => lsFire hW (by rw [lastFire0 ls _ _ (by omega)]; rfl)
            go_wp2_with fail
            refine (HF1.out _).mono ?_
            rintro e w5 ⟨a5, c5, rfl, H5⟩
            clear HF1 H4
            go_wp2_with fail
            refine (HF2.out _ H5.out).mono ?_
            rintro e w6 ⟨a6, c6, rfl, H6⟩
            clear HF2 H5
            go_wp2_with fail
            refine (HF3.out _ H6.out).mono ?_
            rintro e w7 ⟨a7, c7, rfl, H7⟩
            clear HF3 H6
            obtain ⟨sv, hsv⟩ : ∃ sv, steps.getD z 0 = sv := ⟨_, rfl⟩
            obtain ⟨sb, so, hsa, hcl⟩ := HST.out.2 w7 H7.out.gb z (by omega)
            rw [hsv] at hcl
            subst hsa
            obtain ⟨bb, hbb⟩ : ∃ bb, sv.tmod rs = bb := ⟨_, rfl⟩
            have t1 := Int.tmod_lt_of_pos sv (show (0 : Int) < rs by omega)
            have t2 := Int.lt_tmod_of_pos sv (show (0 : Int) < rs by omega)
            rw [hbb] at t1 t2
            go_wp2_with fail
            · refine ⟨⟨z + 1, nz + -bb, by omega, by omega, by simp, rfl, by omega, by omega, ?_⟩, by simp [intOf]; omega⟩
              obtain ⟨S, j1, j2, j3⟩ := H7.out
              exact ⟨S, _, j1, j2, j3, .inr ⟨_, rfl, by omega⟩⟩
            · refine ⟨⟨z + 1, nz + bb, by omega, by omega, by simp, rfl, by omega, by omega, ?_⟩, by simp [intOf]; omega⟩
              obtain ⟨S, j1, j2, j3⟩ := H7.out
              exact ⟨S, _, j1, j2, j3, .inr ⟨_, rfl, by omega⟩⟩
          · have hzj : ¬ (z : Int) < 50 := by omega
            have HG := hidJ HJ.out.gb
            clear HJ
            go_wp2_with fail
            refine (HK.out _ HG.out).mono ?_
            rintro e w4 ⟨rfl, H4⟩
            clear HK
            go_wp2
            go_ret
            exact ⟨rfl, gb_below H4.out⟩
        · have hzi : ¬ (z : Int) < (K : Int) := by omega
          have HG := hidJ HJ.out.gb
          clear HJ
          go_wp2_with fail
          refine (HK.out _ HG.out).mono ?_
          rintro e w4 ⟨rfl, H4⟩
          clear HK
          go_wp2
          go_ret
          exact ⟨rfl, gb_below H4.out⟩
  · by_cases hlo : rs < 2
    · go_enter Tryd.func5, Tryd.ntmps5
      have HNw := hidJ (setB_new w 100 3 ⟨⟨by omega, by omega⟩, by omega, by omega⟩)
      go_wp2_with fail
      refine HNw.out.mono ?_
      rintro e w1 ⟨gx, rfl, q1, q2⟩
      have H1 := hidJ (And.intro q1 q2)
      clear HNw q1 q2
      have HRr : Hid (Calls Tryd.prog 20 #[.slice a N c] w1 fun e w' => e = .returned (.tuple #[.int .i64 r1, .int .i64 (r2 : Int)]) ∧ Hid (w.grownBy w' none ∧ SetB w' (fun k => w.heap.size ≤ k ∧ k < w1.heap.size) gx 100 3 [])) := by
        have := refRight_any w1 _ ls (HU.out.1.keep H1.out.2) HU.out.2.1
        rw [HR.out.1, HR.out.2] at this
        exact this.mono fun e w' ⟨h1, h2⟩ => ⟨h1, gb_none H1.out.2 h2, H1.out.1.keep h2⟩
      go_wp2_with fail
      refine HRr.out.mono ?_
      rintro e w2 ⟨rfl, H2⟩
      clear HRr
      have HK : Hid (∀ W, w.grownBy W none → Calls Tryd.prog 9 #[] W fun e w' => e = .returned (.bool true) ∧ Hid (w.grownBy w' none)) := fun W hW => (known_any W (HU.out.2.2.keep hW)).mono fun e w' ⟨h1, h2⟩ => ⟨h1, gb_none hW h2⟩
      by_cases hbad : r1 ≠ 0 ∨ N = 0
      · have HPb : Hid (Calls Tryd.prog 17 #[.pointer (some ⟨gx, 0, none⟩), .int .i64 5, .agg #[.slice a N c, .int .i64 0, .int .i64 0]] w2 fun e w' => e = .returned (.int .i64 41) ∧ Hid (w.grownBy w' none)) := by
          have hp := setB_put w2 _ gx 100 3 5 0 0 [] (.slice a ls.length c) ls H2.out.2 (by have := HU.out.1.keep H2.out.1; rw [HN.out]; exact this) HU.out.2.1 (HU.out.2.2.keep H2.out.1)
          rw [HN.out] at hp
          have e1 : putE 100 3 5 ⟨ls, 0, 0⟩ [] = 41 := lastBad (by
            rcases hbad with h | h
            · left; rw [HR.out.1]; exact h
            · right; exact List.eq_nil_of_length_eq_zero (by rw [HN.out]; exact h))
          rw [e1] at hp
          exact hp.mono fun e w' ⟨h1, h2, h3⟩ => ⟨h1, gb_ch H2.out.1 h3 (fun k hk => hk.1)⟩
        clear H1 H2 HU HR HN HST
        by_cases hr0 : r1 = 0
        · have hN0 : N = 0 := by omega
          subst hN0
          subst hr0
          clear hbad
          go_wp2_with fail
          refine HPb.out.mono ?_
          rintro e w3 ⟨rfl, H3⟩
          clear HPb
          go_wp2_with fail
          refine (HK.out _ H3.out).mono ?_
          rintro e w4 ⟨rfl, H4⟩
          clear HK H3
          go_wp2
          go_ret
          exact ⟨rfl, gb_below H4.out⟩
        · have hrb : (r1 == 0) = false := by rw [beq_eq_false_iff_ne]; exact hr0
          clear hbad
          go_wp2_with fail
          refine HPb.out.mono ?_
          rintro e w3 ⟨rfl, H3⟩
          clear HPb
          go_wp2_with fail
          refine (HK.out _ H3.out).mono ?_
          rintro e w4 ⟨rfl, H4⟩
          clear HK H3
          go_wp2
          go_ret
          exact ⟨rfl, gb_below H4.out⟩
      · have hr0 : r1 = 0 := by omega
        subst hr0
        have hN0 : ((N : Int) == 0) = false := by rw [beq_eq_false_iff_ne]; omega
        have HRT : Hid ((rightS ls).1 = 0 ∧ ls ≠ []) := ⟨HR.out.1, fun e => hbad (.inr (by rw [← HN.out, e]; rfl))⟩
        have HSt : Hid (LsJ w gx 100 ls 1 w2) := ⟨_, [], H2.out.2, fun k hk => hk.1, H2.out.1, .inl ⟨rfl, rfl⟩⟩
        clear hbad H1 H2
        go_wp2_with fail
        go_loopw [10, 12] (fun nw i wr => ∃ (z : Nat) (nz : Int), z ≤ K ∧ z ≤ 50 ∧ i = .int .i64 z ∧ nw = .int .i64 nz ∧ 1 ≤ nz ∧ nz ≤ 1 + (z : Int) * 1073741824 ∧ Hid (LsJ w gx 100 ls nz wr)) (fun _ i _ => 50 - (intOf i).toNat)
        case atStart => exact ⟨0, 1, by omega, by omega, rfl, rfl, by omega, by omega, HSt.out⟩
        case round =>
          obtain ⟨z, nz, hzK, hz50, rfl, rfl, hn1, hn2, HJ⟩ := hrel
          by_cases hzl : z < K
          · have hzi : (z : Int) < (K : Int) := by omega
            by_cases hzf : z < 50
            · have hzj : (z : Int) < 50 := by omega
              have hnz : nz ≤ 60000000000 := by omega
              have HPu : Hid (Calls Tryd.prog 17 #[.pointer (some ⟨gx, 0, none⟩), .int .i64 nz, .agg #[.slice a N c, .int .i64 0, .int .i64 0]] wr fun e w' => e = .returned (.int .i64 0) ∧ Hid (LsK w gx 100 ls nz w')) := by
                obtain ⟨S, M, j1, j2, j3, j4⟩ := HJ.out
                have hp := setB_put wr S gx 100 3 nz 0 0 M (.slice a ls.length c) ls j1 (by have := HU.out.1.keep j3; rw [HN.out]; exact this) HU.out.2.1 (HU.out.2.2.keep j3)
                obtain ⟨m1, m2⟩ := lastPut (R := 100) (now := nz) ⟨by omega, by omega⟩ ⟨by omega, by omega⟩ HRT.out.1 HRT.out.2 j4
                rw [HN.out, m1, m2] at hp
                refine hp.mono ?_
                rintro e w' ⟨h1, h2, h3⟩
                exact ⟨h1, _, h2, fun k hk => by rcases hk with hk | hk; exact j2 k hk; exact Nat.le_trans j3.size hk.1, gb_ch j3 h3 j2⟩
              go_wp2_with fail
              refine HPu.out.mono ?_
              rintro e w3 ⟨rfl, H3⟩
              clear HPu HJ
              have HGe : Hid (Calls Tryd.prog 16 #[.pointer (some ⟨gx, 0, none⟩), .slice a N c] w3 fun e w' => ∃ a1 n1 c1, e = .returned (.tuple #[.agg #[.slice a1 n1 c1, .int .i64 1, .int .i64 (nz + 100)], .bool true]) ∧ Hid (LsK w gx 100 ls nz w')) := by
                obtain ⟨S, j1, j2, j3⟩ := H3.out
                have hp := get_any w3 S gx 100 3 _ (.slice a ls.length c) ls j1.1 (by have := HU.out.1.keep j3; rw [HN.out]; exact this) HU.out.2.1 (HU.out.2.2.keep j3)
                rw [(lastGet ls (nz + 100)).1, (lastGet ls (nz + 100)).2, HN.out] at hp
                refine hp.mono ?_
                rintro e w' ⟨v', rfl, t1, t2⟩
                obtain ⟨a1, c1, rfl⟩ := t1.shape
                exact ⟨a1, _, c1, rfl, S, j1.keep t2, j2, gb_none j3 t2⟩
              go_wp2_with fail
              refine HGe.out.mono ?_
              rintro e w4 ⟨a4, n4, c4, rfl, H4⟩
              clear HGe H3
              have HF1 : Hid (∀ C, Calls Tryd.prog 21 #[.pointer (some ⟨gx, 0, none⟩), .int .i64 nz] (w4.alloc C) fun e w' => ∃ a c, e = .returned (.slice a 1 c) ∧ Hid (LsK w gx 100 ls nz w')) := fun C => lsFire (H4.out.keep (World.grownBy_alloc w4 C none)) (by rw [lastFire ls _ _ (by omega) (by omega)]; rfl)
              have HF2 : Hid (∀ W, LsK w gx 100 ls nz W → Calls Tryd.prog 21 #[.pointer (some ⟨gx, 0, none⟩), .int .i64 (nz + 100 - 1)] W fun e w' => ∃ a c, e = .returned (.slice a 1 c) ∧ Hid (LsK w gx 100 ls nz w')) := fun W hW => lsFire hW (by rw [lastFire ls _ _ (by omega) (by omega)]; rfl)
              have HF3 : Hid (∀ W, LsK w gx 100 ls nz W → Calls Tryd.prog 21 #[.pointer (some ⟨gx, 0, none⟩), .int .i64 (nz + 100)] W fun e w' => ∃ a c, e = .returned (.slice a 0 c) ∧ Hid (LsK w gx 100 ls nz w')) := fun W hW => lsFire hW (by rw [lastFire0 ls _ _ (by omega)]; rfl)
              go_wp2_with fail
              refine (HF1.out _).mono ?_
              rintro e w5 ⟨a5, c5, rfl, H5⟩
              clear HF1 H4
              go_wp2_with fail
              refine (HF2.out _ H5.out).mono ?_
              rintro e w6 ⟨a6, c6, rfl, H6⟩
              clear HF2 H5
              go_wp2_with fail
              refine (HF3.out _ H6.out).mono ?_
              rintro e w7 ⟨a7, c7, rfl, H7⟩
              clear HF3 H6
              obtain ⟨sv, hsv⟩ : ∃ sv, steps.getD z 0 = sv := ⟨_, rfl⟩
              obtain ⟨sb, so, hsa, hcl⟩ := HST.out.2 w7 H7.out.gb z (by omega)
              rw [hsv] at hcl
              subst hsa
              obtain ⟨bb, hbb⟩ : ∃ bb, sv.tmod 100 = bb := ⟨_, rfl⟩
              have t1 := Int.tmod_lt_of_pos sv (show (0 : Int) < 100 by omega)
              have t2 := Int.lt_tmod_of_pos sv (show (0 : Int) < 100 by omega)
              rw [hbb] at t1 t2
              go_wp2_with fail
              · refine ⟨⟨z + 1, nz + -bb, by omega, by omega, by simp, rfl, by omega, by omega, ?_⟩, by simp [intOf]; omega⟩
                obtain ⟨S, j1, j2, j3⟩ := H7.out
                exact ⟨S, _, j1, j2, j3, .inr ⟨_, rfl, by omega⟩⟩
              · refine ⟨⟨z + 1, nz + bb, by omega, by omega, by simp, rfl, by omega, by omega, ?_⟩, by simp [intOf]; omega⟩
                obtain ⟨S, j1, j2, j3⟩ := H7.out
                exact ⟨S, _, j1, j2, j3, .inr ⟨_, rfl, by omega⟩⟩
            · have hzj : ¬ (z : Int) < 50 := by omega
              have HG := hidJ HJ.out.gb
              clear HJ
              go_wp2_with fail
              refine (HK.out _ HG.out).mono ?_
              rintro e w4 ⟨rfl, H4⟩
              clear HK
              go_wp2
              go_ret
              exact ⟨rfl, gb_below H4.out⟩
          · have hzi : ¬ (z : Int) < (K : Int) := by omega
            have HG := hidJ HJ.out.gb
            clear HJ
            go_wp2_with fail
            refine (HK.out _ HG.out).mono ?_
            rintro e w4 ⟨rfl, H4⟩
            clear HK
            go_wp2
            go_ret
            exact ⟨rfl, gb_below H4.out⟩
    · have hhi : 1073741824 < rs := by omega
      go_enter Tryd.func5, Tryd.ntmps5
      have HNw := hidJ (setB_new w 100 3 ⟨⟨by omega, by omega⟩, by omega, by omega⟩)
      go_wp2_with fail
      refine HNw.out.mono ?_
      rintro e w1 ⟨gx, rfl, q1, q2⟩
      have H1 := hidJ (And.intro q1 q2)
      clear HNw q1 q2
      have HRr : Hid (Calls Tryd.prog 20 #[.slice a N c] w1 fun e w' => e = .returned (.tuple #[.int .i64 r1, .int .i64 (r2 : Int)]) ∧ Hid (w.grownBy w' none ∧ SetB w' (fun k => w.heap.size ≤ k ∧ k < w1.heap.size) gx 100 3 [])) := by
        have := refRight_any w1 _ ls (HU.out.1.keep H1.out.2) HU.out.2.1
        rw [HR.out.1, HR.out.2] at this
        exact this.mono fun e w' ⟨h1, h2⟩ => ⟨h1, gb_none H1.out.2 h2, H1.out.1.keep h2⟩
      go_wp2_with fail
      refine HRr.out.mono ?_
      rintro e w2 ⟨rfl, H2⟩
      clear HRr
      have HK : Hid (∀ W, w.grownBy W none → Calls Tryd.prog 9 #[] W fun e w' => e = .returned (.bool true) ∧ Hid (w.grownBy w' none)) := fun W hW => (known_any W (HU.out.2.2.keep hW)).mono fun e w' ⟨h1, h2⟩ => ⟨h1, gb_none hW h2⟩
      by_cases hbad : r1 ≠ 0 ∨ N = 0
      · have HPb : Hid (Calls Tryd.prog 17 #[.pointer (some ⟨gx, 0, none⟩), .int .i64 5, .agg #[.slice a N c, .int .i64 0, .int .i64 0]] w2 fun e w' => e = .returned (.int .i64 41) ∧ Hid (w.grownBy w' none)) := by
          have hp := setB_put w2 _ gx 100 3 5 0 0 [] (.slice a ls.length c) ls H2.out.2 (by have := HU.out.1.keep H2.out.1; rw [HN.out]; exact this) HU.out.2.1 (HU.out.2.2.keep H2.out.1)
          rw [HN.out] at hp
          have e1 : putE 100 3 5 ⟨ls, 0, 0⟩ [] = 41 := lastBad (by
            rcases hbad with h | h
            · left; rw [HR.out.1]; exact h
            · right; exact List.eq_nil_of_length_eq_zero (by rw [HN.out]; exact h))
          rw [e1] at hp
          exact hp.mono fun e w' ⟨h1, h2, h3⟩ => ⟨h1, gb_ch H2.out.1 h3 (fun k hk => hk.1)⟩
        clear H1 H2 HU HR HN HST
        by_cases hr0 : r1 = 0
        · have hN0 : N = 0 := by omega
          subst hN0
          subst hr0
          clear hbad
          go_wp2_with fail
          refine HPb.out.mono ?_
          rintro e w3 ⟨rfl, H3⟩
          clear HPb
          go_wp2_with fail
          refine (HK.out _ H3.out).mono ?_
          rintro e w4 ⟨rfl, H4⟩
          clear HK H3
          go_wp2
          go_ret
          exact ⟨rfl, gb_below H4.out⟩
        · have hrb : (r1 == 0) = false := by rw [beq_eq_false_iff_ne]; exact hr0
          clear hbad
          go_wp2_with fail
          refine HPb.out.mono ?_
          rintro e w3 ⟨rfl, H3⟩
          clear HPb
          go_wp2_with fail
          refine (HK.out _ H3.out).mono ?_
          rintro e w4 ⟨rfl, H4⟩
          clear HK H3
          go_wp2
          go_ret
          exact ⟨rfl, gb_below H4.out⟩
      · have hr0 : r1 = 0 := by omega
        subst hr0
        have hN0 : ((N : Int) == 0) = false := by rw [beq_eq_false_iff_ne]; omega
        have HRT : Hid ((rightS ls).1 = 0 ∧ ls ≠ []) := ⟨HR.out.1, fun e => hbad (.inr (by rw [← HN.out, e]; rfl))⟩
        have HSt : Hid (LsJ w gx 100 ls 1 w2) := ⟨_, [], H2.out.2, fun k hk => hk.1, H2.out.1, .inl ⟨rfl, rfl⟩⟩
        clear hbad H1 H2
        go_wp2_with fail
        go_loopw [10, 12] (fun nw i wr => ∃ (z : Nat) (nz : Int), z ≤ K ∧ z ≤ 50 ∧ i = .int .i64 z ∧ nw = .int .i64 nz ∧ 1 ≤ nz ∧ nz ≤ 1 + (z : Int) * 1073741824 ∧ Hid (LsJ w gx 100 ls nz wr)) (fun _ i _ => 50 - (intOf i).toNat)
        case atStart => exact ⟨0, 1, by omega, by omega, rfl, rfl, by omega, by omega, HSt.out⟩
        case round =>
          obtain ⟨z, nz, hzK, hz50, rfl, rfl, hn1, hn2, HJ⟩ := hrel
          by_cases hzl : z < K
          · have hzi : (z : Int) < (K : Int) := by omega
            by_cases hzf : z < 50
            · have hzj : (z : Int) < 50 := by omega
              have hnz : nz ≤ 60000000000 := by omega
              have HPu : Hid (Calls Tryd.prog 17 #[.pointer (some ⟨gx, 0, none⟩), .int .i64 nz, .agg #[.slice a N c, .int .i64 0, .int .i64 0]] wr fun e w' => e = .returned (.int .i64 0) ∧ Hid (LsK w gx 100 ls nz w')) := by
                obtain ⟨S, M, j1, j2, j3, j4⟩ := HJ.out
                have hp := setB_put wr S gx 100 3 nz 0 0 M (.slice a ls.length c) ls j1 (by have := HU.out.1.keep j3; rw [HN.out]; exact this) HU.out.2.1 (HU.out.2.2.keep j3)
                obtain ⟨m1, m2⟩ := lastPut (R := 100) (now := nz) ⟨by omega, by omega⟩ ⟨by omega, by omega⟩ HRT.out.1 HRT.out.2 j4
                rw [HN.out, m1, m2] at hp
                refine hp.mono ?_
                rintro e w' ⟨h1, h2, h3⟩
                exact ⟨h1, _, h2, fun k hk => by rcases hk with hk | hk; exact j2 k hk; exact Nat.le_trans j3.size hk.1, gb_ch j3 h3 j2⟩
              go_wp2_with fail
              refine HPu.out.mono ?_
              rintro e w3 ⟨rfl, H3⟩
              clear HPu HJ
              have HGe : Hid (Calls Tryd.prog 16 #[.pointer (some ⟨gx, 0, none⟩), .slice a N c] w3 fun e w' => ∃ a1 n1 c1, e = .returned (.tuple #[.agg #[.slice a1 n1 c1, .int .i64 1, .int .i64 (nz + 100)], .bool true]) ∧ Hid (LsK w gx 100 ls nz w')) := by
                obtain ⟨S, j1, j2, j3⟩ := H3.out
                have hp := get_any w3 S gx 100 3 _ (.slice a ls.length c) ls j1.1 (by have := HU.out.1.keep j3; rw [HN.out]; exact this) HU.out.2.1 (HU.out.2.2.keep j3)
                rw [(lastGet ls (nz + 100)).1, (lastGet ls (nz + 100)).2, HN.out] at hp
                refine hp.mono ?_
                rintro e w' ⟨v', rfl, t1, t2⟩
                obtain ⟨a1, c1, rfl⟩ := t1.shape
                exact ⟨a1, _, c1, rfl, S, j1.keep t2, j2, gb_none j3 t2⟩
              go_wp2_with fail
              refine HGe.out.mono ?_
              rintro e w4 ⟨a4, n4, c4, rfl, H4⟩
              clear HGe H3
              have HF1 : Hid (∀ C, Calls Tryd.prog 21 #[.pointer (some ⟨gx, 0, none⟩), .int .i64 nz] (w4.alloc C) fun e w' => ∃ a c, e = .returned (.slice a 1 c) ∧ Hid (LsK w gx 100 ls nz w')) := fun C => lsFire (H4.out.keep (World.grownBy_alloc w4 C none)) (by rw [lastFire ls _ _ (by omega) (by omega)]; rfl)
              have HF2 : Hid (∀ W, LsK w gx 100 ls nz W → Calls Tryd.prog 21 #[.pointer (some ⟨gx, 0, none⟩), .int .i64 (nz + 100 - 1)] W fun e w' => ∃ a c, e = .returned (.slice a 1 c) ∧ Hid (LsK w gx 100 ls nz w')) := fun W hW => lsFire hW (by rw [lastFire ls _ _ (by omega) (by omega)]; rfl)
              have HF3 : Hid (∀ W, LsK w gx 100 ls nz W → Calls Tryd.prog 21 #[.pointer (some ⟨gx, 0, none⟩), .int .i64 (nz + 100)] W fun e w' => ∃ a c, e = .returned (.slice a 0 c) ∧ Hid (LsK w gx 100 ls nz w')) := fun W hW => lsFire hW (by rw [lastFire0 ls _ _ (by omega)]; rfl)
              go_wp2_with fail
              refine (HF1.out _).mono ?_
              rintro e w5 ⟨a5, c5, rfl, H5⟩
              clear HF1 H4
              go_wp2_with fail
              refine (HF2.out _ H5.out).mono ?_
              rintro e w6 ⟨a6, c6, rfl, H6⟩
              clear HF2 H5
              go_wp2_with fail
              refine (HF3.out _ H6.out).mono ?_
              rintro e w7 ⟨a7, c7, rfl, H7⟩
              clear HF3 H6
              obtain ⟨sv, hsv⟩ : ∃ sv, steps.getD z 0 = sv := ⟨_, rfl⟩
              obtain ⟨sb, so, hsa, hcl⟩ := HST.out.2 w7 H7.out.gb z (by omega)
              rw [hsv] at hcl
              subst hsa
              obtain ⟨bb, hbb⟩ : ∃ bb, sv.tmod 100 = bb := ⟨_, rfl⟩
              have t1 := Int.tmod_lt_of_pos sv (show (0 : Int) < 100 by omega)
              have t2 := Int.lt_tmod_of_pos sv (show (0 : Int) < 100 by omega)
              rw [hbb] at t1 t2
              go_wp2_with fail
              · refine ⟨⟨z + 1, nz + -bb, by omega, by omega, by simp, rfl, by omega, by omega, ?_⟩, by simp [intOf]; omega⟩
                obtain ⟨S, j1, j2, j3⟩ := H7.out
                exact ⟨S, _, j1, j2, j3, .inr ⟨_, rfl, by omega⟩⟩
              · refine ⟨⟨z + 1, nz + bb, by omega, by omega, by simp, rfl, by omega, by omega, ?_⟩, by simp [intOf]; omega⟩
                obtain ⟨S, j1, j2, j3⟩ := H7.out
                exact ⟨S, _, j1, j2, j3, .inr ⟨_, rfl, by omega⟩⟩
            · have hzj : ¬ (z : Int) < 50 := by omega
              have HG := hidJ HJ.out.gb
              clear HJ
              go_wp2_with fail
              refine (HK.out _ HG.out).mono ?_
              rintro e w4 ⟨rfl, H4⟩
              clear HK
              go_wp2
              go_ret
              exact ⟨rfl, gb_below H4.out⟩
          · have hzi : ¬ (z : Int) < (K : Int) := by omega
            have HG := hidJ HJ.out.gb
            clear HJ
            go_wp2_with fail
            refine (HK.out _ HG.out).mono ?_
            rintro e w4 ⟨rfl, H4⟩
            clear HK
            go_wp2
            go_ret
            exact ⟨rfl, gb_below H4.out⟩
end Go.Proofs.YtmgbcmogdjhacaaDoor
