/-
  Nfh, Nfi, in one text.
-/
import Derived.Test.YtpglhdnepmcahaaGreatDoorNmG
/- Nfh -/
namespace Go.Proofs.YtpglhdnepmcahaaGreatDoor
open Go.RowKit Go.Shelf Go.Sort

set_option maxRecDepth 8000 in
set_option maxHeartbeats 12800000 in
theorem putL_any (w : World) (gx : Nat) (m : MkR) (f s : Value) (h : LgN w gx) (hm : RdM w m f s) (hT : U8S w) :
    Calls Tryz.prog 16 #[.pointer (some ⟨gx, 0, none⟩), markV m f s] w fun e w' => e = .returned (.int .i64 (rightM m)) ∧ w.grownBy w' (some gx) ∧ (rightM m = 0 → ∃ f' s', LgM w' gx [(m, f', s')]) ∧ (rightM m ≠ 0 → w.grownBy w' none) := by
  have hgl : gx < w.heap.size := block_lt (show w.cell? ⟨gx, 0, none⟩ = some (.slice none 0 0) from Boxed.cell h)
  obtain ⟨fa, fc, ef, -⟩ := hm.fir.shape
  obtain ⟨sa, sc, es, -⟩ := hm.res.shape
  subst ef es
  have HRi : Hid (∀ W, w.grownBy W none → Calls Tryz.prog 38 #[markV m (.slice fa m.fir.length fc) (.slice sa m.res.length sc)] W fun e w' => e = .returned (.int .i64 (rightM m)) ∧ W.grownBy w' none) := fun W hW => rightM_any W m _ _ (hm.keep hW) (hT.keep hW)
  have HA : Hid (∀ W, Calls Tryz.prog 39 #[markV m (.slice fa m.fir.length fc) (.slice sa m.res.length sc)] W fun e w' => e = .returned (addV (m.rcv, m.key)) ∧ W.grownBy w' none) := fun W => addrOf_any W m _ _ ⟨_, _, _, rfl⟩ ⟨_, _, _, rfl⟩
  have HG : Hid (∀ W, w.grownBy W none → Calls Tryz.prog 40 #[.pointer (some ⟨gx, 0, none⟩), addV (m.rcv, m.key)] W fun e w' => e = .returned (.tuple #[.agg #[.string ⟨#[]⟩, .string ⟨#[]⟩, .int .i64 0, .slice none 0 0, .slice none 0 0], .bool false]) ∧ Hid (W.grownBy w' none)) := fun W hW => getL_any W gx [] _ (h.keep hW).lg
  have HLy : Hid (rightM m = 0 → ∀ W, w.grownBy W none → Calls Tryz.prog 12 #[.pointer (some ⟨gx, 0, none⟩), markV m (.slice fa m.fir.length fc) (.slice sa m.res.length sc)] W fun e w' => ∃ f' s', e = .returned (.int .i64 0) ∧ LgM w' gx [(m, f', s')] ∧ W.grownBy w' (some gx)) := fun hR W hW => layE_any W gx m _ _ (h.keep hW) (hm.keep hW) hR
  clear h hm hT
  unfold markV at HA HRi HLy
  unfold addV at HA HG
  unfold markV
  dsimp only at HA HG
  have HB := hidJ (And.intro (B5.new w 34 (.string (ByteArray.mk ⟨m.rcv⟩)) (.string (ByteArray.mk ⟨m.key⟩)) (.int .i64 m.tim) (.slice fa m.fir.length fc) (.slice sa m.res.length sc)) (World.grownBy_alloc w (.cells #[.string (ByteArray.mk ⟨m.rcv⟩), .string (ByteArray.mk ⟨m.key⟩), .int .i64 m.tim, .slice fa m.fir.length fc, .slice sa m.res.length sc] 34) none))
  generalize ByteArray.mk ⟨m.rcv⟩ = br at *
  generalize ByteArray.mk ⟨m.key⟩ = bk at *
  generalize m.tim = tm at *
  generalize m.fir.length = nf at *
  generalize m.res.length = ns at *
  obtain ⟨R, hR⟩ : ∃ R, R = rightM m := ⟨_, rfl⟩
  rw [← hR] at HRi HLy
  rw [← hR]
  clear hR
  obtain ⟨PL, hPL⟩ : ∃ PL : World → Prop, PL = fun w' => ∃ f' s', LgM w' gx [(m, f', s')] := ⟨_, rfl⟩
  have HPL : Hid (∀ w' f' s', LgM w' gx [(m, f', s')] → PL w') := fun w' f' s' h => by rw [hPL]; exact ⟨f', s', h⟩
  have hgoal : ∀ w', (∃ f' s', LgM w' gx [(m, f', s')]) = PL w' := fun w' => by rw [hPL]
  simp only [hgoal]
  clear hgoal hPL
  obtain ⟨Q, hQ⟩ : ∃ Q : World → Prop, Q = fun w' => w.grownBy w' (some gx) ∧ (R = 0 → PL w') ∧ (R ≠ 0 → w.grownBy w' none) := ⟨_, rfl⟩
  have HQ : Hid (∀ w', w.grownBy w' (some gx) → (R = 0 → PL w') → (R ≠ 0 → w.grownBy w' none) → Q w') := fun w' h1 h2 h3 => by rw [hQ]; exact ⟨h1, h2, h3⟩
  have hgoal : ∀ w', (w.grownBy w' (some gx) ∧ (R = 0 → PL w') ∧ (R ≠ 0 → w.grownBy w' none)) = Q w' := fun w' => by rw [hQ]
  simp only [hgoal]
  clear hgoal hQ
  go_enter Tryz.func16, Tryz.ntmps16
  go_wp2_with fail
  refine (HRi.out _ HB.out.2).mono ?_
  rintro e w1 ⟨rfl, g1⟩
  clear HRi
  have HB := hidJ (And.intro (HB.out.1.keep g1) (gb_none HB.out.2 g1))
  clear g1
  by_cases h0 : R = 0
  · subst h0
    obtain ⟨c0, c1, c2, c3, c4⟩ := HB.out.1.cells
    have HLz := hidJ (HLy.out rfl)
    clear HLy
    have HA2 : Hid (∀ W, Calls Tryz.prog 39 #[.agg #[.string br, .string bk, .int .i64 tm, .slice fa nf fc, .slice sa ns sc]] W fun e w' => e = .returned (.agg #[.string br, .string bk]) ∧ Hid (W.grownBy w' none)) := HA.out
    have HG2 : Hid (∀ W, w1.grownBy W none → Calls Tryz.prog 40 #[.pointer (some ⟨gx, 0, none⟩), .agg #[.string br, .string bk]] W fun e w' => e = .returned (.tuple #[.agg #[.string ⟨#[]⟩, .string ⟨#[]⟩, .int .i64 0, .slice none 0 0, .slice none 0 0], .bool false]) ∧ Hid (W.grownBy w' none)) := fun W hW => HG.out W (gb_none HB.out.2 hW)
    clear HA HG
    have HK : Hid (∀ (C : Obj) (b o : Nat) (u : Value), w1.cell? ⟨b, o, none⟩ = some u → (w1.alloc C).cell? ⟨b, o, none⟩ = some u) := fun C b o u h => (World.cell?_of_block ((World.grownBy_alloc w1 C none).block b (block_lt h) (by simp))).trans h
    have HK2 : Hid (∀ (C : Obj) (b o : Nat) (u : Value), w1.cell? ⟨b, o, none⟩ = some u → (w1.drew.alloc C).cell? ⟨b, o, none⟩ = some u) := fun C b o u h => (World.cell?_of_block ((gb_none (gb_drew w1 none) (World.grownBy_alloc w1.drew C none)).block b (block_lt h) (by simp))).trans h
    have z0 := fun C => HK.out C _ _ _ c0
    have z1 := fun C => HK.out C _ _ _ c1
    have z2 := fun C => HK.out C _ _ _ c2
    have z3 := fun C => HK.out C _ _ _ c3
    have z4 := fun C => HK.out C _ _ _ c4
    have t0 := fun C => HK2.out C _ _ _ c0
    have t1 := fun C => HK2.out C _ _ _ c1
    have t2 := fun C => HK2.out C _ _ _ c2
    have t3 := fun C => HK2.out C _ _ _ c3
    have t4 := fun C => HK2.out C _ _ _ c4
    go_wp2
    go_region_with (first
      | (go_at_call 39; refine (HA2.out _).mono ?_; rintro e w2 ⟨rfl, H2⟩)
      | (go_at_call 40; refine (HG2.out _ (by first | exact gb_none (gb_drew _ none) H2.out | exact gb_none (gb_none (World.grownBy_alloc _ _ none) (gb_drew _ none)) H2.out | exact gb_none (gb_none (gb_drew _ none) (World.grownBy_alloc _ _ none)) H2.out | exact gb_none (gb_none (gb_drew _ none) H2.out) (World.grownBy_alloc _ _ none))).mono ?_; rintro e w3 ⟨rfl, H3⟩; (first
          | (have hb5 := ((B5.new w1 34 (.string ⟨#[]⟩) (.string ⟨#[]⟩) (.int .i64 0) (.slice none 0 0) (.slice none 0 0)).keep (gb_none (gb_drew _ none) H2.out)).keep H3.out; obtain ⟨n0, n1, n2, n3, n4⟩ := hb5.cells; obtain ⟨m0, m1, m2, m3, m4⟩ := hb5.froz; clear hb5)
          | (have hb5 := (B5.new w2 34 (.string ⟨#[]⟩) (.string ⟨#[]⟩) (.int .i64 0) (.slice none 0 0) (.slice none 0 0)).keep H3.out; obtain ⟨n0, n1, n2, n3, n4⟩ := hb5.cells; obtain ⟨m0, m1, m2, m3, m4⟩ := hb5.froz; clear hb5)
          | skip)))
    all_goals
      clear z0 z1 z2 z3 z4 t0 t1 t2 t3 t4 HK HK2 HG2 HA2
      have HX : Hid (∀ W, (W = w3.alloc (.cells #[.string ⟨#[]⟩, .string ⟨#[]⟩, .int .i64 0, .slice none 0 0, .slice none 0 0] 34) ∨ W = set5 w3 w2.heap.size (.string ⟨#[]⟩) (.string ⟨#[]⟩) (.int .i64 0) (.slice none 0 0) (.slice none 0 0) ∨ W = set5 w3 w1.heap.size (.string ⟨#[]⟩) (.string ⟨#[]⟩) (.int .i64 0) (.slice none 0 0) (.slice none 0 0)) → w1.grownBy W none) := by
        intro W hW
        have g2 : w1.grownBy w2 none := by first | exact gb_none (gb_drew _ none) H2.out | exact gb_none (gb_none (World.grownBy_alloc _ _ none) (gb_drew _ none)) H2.out | exact gb_none (gb_none (gb_drew _ none) (World.grownBy_alloc _ _ none)) H2.out
        have g3 : w1.grownBy w3 none := by first | exact gb_none g2 H3.out | exact gb_none (gb_none g2 (World.grownBy_alloc _ _ none)) H3.out
        have hz := g2.size
        rcases hW with rfl | rfl | rfl
        · exact gb_none g3 (World.grownBy_alloc _ _ none)
        · exact gb_ch g3 (set5_ch _ _ _ _ _ _ _) (fun k e => by omega)
        · exact gb_ch g3 (set5_ch _ _ _ _ _ _ _) (fun k e => by omega)
      unfold set5 at HX
      have hj := HX.out _ (.inr (.inr rfl))
      have hj2 := HX.out _ (.inr (.inl rfl))
      have hj3 := HX.out _ (.inl rfl)
      clear HX H2 H3
      first
        | (clear n0 n1 n2 n3 n4 m0 m1 m2 m3 m4)
        | skip
      obtain ⟨W4, hW4, HY⟩ : ∃ W4, (W4 = w3.alloc (.cells #[.string ⟨#[]⟩, .string ⟨#[]⟩, .int .i64 0, .slice none 0 0, .slice none 0 0] 34)) ∧ Hid (w1.grownBy W4 none) := ⟨_, rfl, hj3⟩
      obtain ⟨W5, hW5, HY5⟩ : ∃ W5, (W5 = (((((w3.setCell ⟨w2.heap.size, 0, none⟩ (.string ⟨#[]⟩)).setCell ⟨w2.heap.size, 1, none⟩ (.string ⟨#[]⟩)).setCell ⟨w2.heap.size, 2, none⟩ (.int .i64 0)).setCell ⟨w2.heap.size, 3, none⟩ (.slice none 0 0)).setCell ⟨w2.heap.size, 4, none⟩ (.slice none 0 0))) ∧ Hid (w1.grownBy W5 none) := ⟨_, rfl, hj2⟩
      obtain ⟨W6, hW6, HY6⟩ : ∃ W6, (W6 = (((((w3.setCell ⟨w1.heap.size, 0, none⟩ (.string ⟨#[]⟩)).setCell ⟨w1.heap.size, 1, none⟩ (.string ⟨#[]⟩)).setCell ⟨w1.heap.size, 2, none⟩ (.int .i64 0)).setCell ⟨w1.heap.size, 3, none⟩ (.slice none 0 0)).setCell ⟨w1.heap.size, 4, none⟩ (.slice none 0 0))) ∧ Hid (w1.grownBy W6 none) := ⟨_, rfl, hj⟩
      clear hj hj2 hj3
      first
        | (rw [← hW6]; clear hW4 hW5 hW6 HY HY5; obtain ⟨WW, hWW, HYY⟩ : ∃ WW, WW = W6 ∧ Hid (w1.grownBy WW none) := ⟨_, rfl, HY6⟩; subst hWW; clear HY6)
        | (rw [← hW5]; clear hW4 hW5 hW6 HY HY6; obtain ⟨WW, hWW, HYY⟩ : ∃ WW, WW = W5 ∧ Hid (w1.grownBy WW none) := ⟨_, rfl, HY5⟩; subst hWW; clear HY5)
        | (rw [← hW4]; clear hW4 hW5 hW6 HY5 HY6; obtain ⟨WW, hWW, HYY⟩ : ∃ WW, WW = W4 ∧ Hid (w1.grownBy WW none) := ⟨_, rfl, HY⟩; subst hWW; clear HY)
      have kc : ∀ {b o : Nat} {u : Value}, w1.cell? ⟨b, o, none⟩ = some u → WW.cell? ⟨b, o, none⟩ = some u := fun h => (World.cell?_of_block (HYY.out.block _ (block_lt h) (by simp))).trans h
      have q0 := kc c0
      have q1 := kc c1
      have q2 := kc c2
      have q3 := kc c3
      have q4 := kc c4
      clear c0 c1 c2 c3 c4 kc
      have HZ := hidJ (gb_none HB.out.2 HYY.out)
      go_wp2_with fail
      refine (HLz.out _ HZ.out).mono ?_
      rintro e w7 ⟨f', s', rfl, g7, g8⟩
      have HF := hidJ (HQ.out w7 (gb_trans (gb_any HZ.out (some gx)) g8 (fun k hk _ => hk.symm)) (fun _ => HPL.out _ _ _ g7) (fun e => absurd rfl e))
      clear g7 g8
      go_wp2
      go_ret
      exact ⟨rfl, HF.out⟩
  · have h0b : (R == 0) = false := by rw [beq_eq_false_iff_ne]; exact h0
    have HF := hidJ (HQ.out w1 (gb_any HB.out.2 _) (fun e => absurd e h0) (fun _ => HB.out.2))
    go_wp2
    go_ret
    exact ⟨rfl, HF.out⟩
end Go.Proofs.YtpglhdnepmcahaaGreatDoor

/- Nfi -/
namespace Go.Proofs.YtpglhdnepmcahaaGreatDoor
open Go.RowKit Go.Shelf Go.Sort

set_option maxHeartbeats 1600000 in
theorem newN_any (w : World) : Calls Tryz.prog 10 #[] w fun e w' => e = .returned (.pointer (some ⟨w.heap.size, 0, none⟩)) ∧ LgN w' w.heap.size ∧ w.grownBy w' none := by
  have HF : Hid (LgN (w.alloc (.cells #[.slice none 0 0] 74)) w.heap.size ∧ w.grownBy (w.alloc (.cells #[.slice none 0 0] 74)) none) := ⟨Boxed.new w 74 (.slice none 0 0), World.grownBy_alloc _ _ none⟩
  go_enter Tryz.func10, Tryz.ntmps10
  go_wp2
  go_ret
  exact ⟨rfl, HF.out⟩
def awA : List (List LbT) := [[([97], [49])]]
def awM : MkR := ⟨[116, 101, 97, 109], [107], 100, awA, []⟩
theorem aw0 : needsM (getM [] ([116, 101, 97, 109], [107])).1 (hasM [] ([116, 101, 97, 109], [107])) 100 50 awA [] = (true, 0) := by decide +kernel
theorem aw1 : rightM awM = 0 := by decide +kernel
theorem aw2 : needsM awM true 120 50 awA [] = (false, 0) := by decide +kernel
theorem aw3 : needsM awM true 150 50 awA [] = (true, 0) := by decide +kernel
theorem awG (f s : Value) : getM [(awM, f, s)] ([116, 101, 97, 109], [107]) = (awM, f, s) ∧ hasM [(awM, f, s)] ([116, 101, 97, 109], [107]) = true := by
  constructor
  · simp [getM, keyX, awM]
  · simp [hasM, keyX, awM]
theorem awI : LLIn awA ∧ LLIn ([] : List (List LbT)) := by
  refine ⟨⟨by decide, fun j => ?_⟩, by simp, fun j => by simpa using LbIn.nil⟩
  match j with
  | 0 =>
    refine ⟨by decide, fun i => ?_⟩
    match i with
    | 0 => exact ⟨by decide, by decide⟩
    | i + 1 => exact ⟨by simp [awA], by simp [awA]⟩
  | j + 1 => simpa [awA] using LbIn.nil
/-- the law's own label set in memory -/
structure AwL (W : World) (b : Nat) : Prop where
  lab : W.heap[b]? = some (.cells #[.string ⟨#[97]⟩, .string ⟨#[49]⟩] 51 (0, 0))
  row : W.heap[b + 1]? = some (.cells #[.slice (some ⟨b, 0, none⟩) 1 1] 52 (0, 0))
theorem AwL.keep {W W' : World} {b : Nat} {g : Option Nat} (h : AwL W b) (hg : W.grownBy W' g) (h0 : g ≠ some b) (h1 : g ≠ some (b + 1)) : AwL W' b := ⟨(hg.block _ (some_lt h.lab) (fun e => h0 e.symm)).trans h.lab, (hg.block _ (some_lt h.row) (fun e => h1 e.symm)).trans h.row⟩
theorem AwL.rd {W : World} {b : Nat} (h : AwL W b) : RdLL W (.slice (some ⟨b + 1, 0, none⟩) 1 1) awA := by
  refine ⟨[.slice (some ⟨b, 0, none⟩) 1 1], ⟨_, 1, rfl, Nat.le_refl _, by unfold maxLen; omega, fun j hj => ⟨b + 1, 0, rfl, ?_⟩, fun e => by cases e⟩, rfl, fun j => ?_⟩
  · have : j = 0 := by simp at hj; omega
    subst this
    simp [World.cell?, h.row]
  · match j with
    | 0 =>
      refine ⟨_, 1, rfl, Nat.le_refl _, by unfold maxLen; omega, fun i hi => ⟨b, 0, rfl, ?_⟩, fun e => by cases e⟩
      have hi0 : i = 0 := by simp [awA] at hi; omega
      subst hi0
      exact ⟨by simp [World.cell?, h.lab, awA], by simp [World.cell?, h.lab, awA]⟩
    | j + 1 => simpa [awA] using RdL.nil W
set_option maxRecDepth 8000 in
set_option maxHeartbeats 6400000 in
theorem awakeN_any (w : World) (hT : U8S w) : Calls Tryz.prog 6 #[] w fun e w' => e = .returned (.bool true) ∧ w.grownBy w' none := by
  have HT := hidJ hT
  clear hT
  have HNw := hidJ (newN_any w)
  obtain ⟨gx, hgx⟩ : ∃ gx, w.heap.size = gx := ⟨_, rfl⟩
  rw [hgx] at HNw
  have HGX := hidJ hgx
  clear hgx
  go_enter Tryz.func6, Tryz.ntmps6
  go_wp2_with fail
  refine HNw.out.mono ?_
  rintro e w1 ⟨rfl, H1⟩
  have H1 := hidJ H1
  clear HNw
  have k1 := World.grownBy_alloc w1 (.cells #[.string ⟨#[97]⟩, .string ⟨#[49]⟩] 51) none
  have k2 := World.grownBy_alloc (w1.alloc (.cells #[.string ⟨#[97]⟩, .string ⟨#[49]⟩] 51)) (.cells #[.slice (some ⟨w1.heap.size, 0, none⟩) 1 1] 52) none
  have hA : AwL ((w1.alloc (.cells #[.string ⟨#[97]⟩, .string ⟨#[49]⟩] 51)).alloc (.cells #[.slice (some ⟨w1.heap.size, 0, none⟩) 1 1] 52)) w1.heap.size := by
    have e1 := (k2.block w1.heap.size (by simp) (by simp)).trans (Go.heap_alloc_new w1 (.cells #[.string ⟨#[97]⟩, .string ⟨#[49]⟩] 51))
    have e2 := Go.heap_alloc_new (w1.alloc (.cells #[.string ⟨#[97]⟩, .string ⟨#[49]⟩] 51)) (.cells #[.slice (some ⟨w1.heap.size, 0, none⟩) 1 1] 52)
    rw [World.size_alloc] at e2
    exact ⟨e1, e2⟩
  have H2 : Hid (AwL ((w1.alloc (.cells #[.string ⟨#[97]⟩, .string ⟨#[49]⟩] 51)).alloc (.cells #[.slice (some ⟨w1.heap.size, 0, none⟩) 1 1] 52)) w1.heap.size ∧ w.grownBy ((w1.alloc (.cells #[.string ⟨#[97]⟩, .string ⟨#[49]⟩] 51)).alloc (.cells #[.slice (some ⟨w1.heap.size, 0, none⟩) 1 1] 52)) none ∧ LgN ((w1.alloc (.cells #[.string ⟨#[97]⟩, .string ⟨#[49]⟩] 51)).alloc (.cells #[.slice (some ⟨w1.heap.size, 0, none⟩) 1 1] 52)) gx ∧ gx < w1.heap.size) := ⟨hA, gb_none H1.out.2 (gb_none k1 k2), H1.out.1.keep (gb_none k1 k2), block_lt (Boxed.cell H1.out.1)⟩
  clear k1 k2 hA
  have hT2 := HT.out.keep H2.out.2.1
  have HN := hidJ (logNeeds_any _ gx [] [116, 101, 97, 109] [107] _ _ 100 50 awA [] H2.out.2.2.1.lg H2.out.1.rd (RdLL.nil _) awI.1 awI.2 hT2)
  rw [aw0] at HN
  clear hT2
  generalize hW2 : ((w1.alloc (.cells #[.string ⟨#[97]⟩, .string ⟨#[49]⟩] 51)).alloc (.cells #[.slice (some ⟨w1.heap.size, 0, none⟩) 1 1] 52)) = W2 at *
  unfold nilV at HN
  go_wp2_with fail
  clear hW2
  refine HN.out.mono ?_
  rintro e w3 ⟨rfl, g3⟩
  clear HN
  have hA3 := H2.out.1.keep g3 (by simp) (by simp)
  have hg3 := gb_none H2.out.2.1 g3
  have HP := hidJ (putL_any w3 gx awM _ _ (H2.out.2.2.1.keep g3) ⟨hA3.rd, RdLL.nil _, awI.1, awI.2, by decide, by decide⟩ (HT.out.keep hg3))
  rw [aw1] at HP
  have H3 := hidJ (And.intro hA3 (And.intro hg3 H2.out.2.2.2))
  clear hA3 hg3 g3 H2
  generalize hbb : w1.heap.size = bb at *
  clear hbb
  unfold markV nilV at HP
  dsimp only [awM] at HP
  go_wp2_with fail
  refine HP.out.mono ?_
  rintro e w4 ⟨rfl, g4, g5, -⟩
  obtain ⟨f', s', hL4⟩ := g5 (by first | rfl | trivial)
  clear HP g5
  have hA4 := H3.out.1.keep g4 (by have := H3.out.2.2; simp; omega) (by have := H3.out.2.2; simp; omega)
  have hg4 : w.grownBy w4 none := gb_new H3.out.2.1 g4 (fun k hk => by have := HGX.out; cases hk; omega)
  have HN := hidJ (logNeeds_any w4 gx _ [116, 101, 97, 109] [107] _ _ 120 50 awA [] hL4 hA4.rd (RdLL.nil _) awI.1 awI.2 (HT.out.keep hg4))
  have HH := hidJ (awG f' s')
  have HN2 : Hid (∀ W, w4.grownBy W none → Calls Tryz.prog 15 #[.pointer (some ⟨gx, 0, none⟩), .string (ByteArray.mk ⟨[116, 101, 97, 109]⟩), .string (ByteArray.mk ⟨[107]⟩), .int .i64 150, .int .i64 50, .slice (some ⟨bb + 1, 0, none⟩) 1 1, nilV] W fun e w' => e = .returned (.tuple #[.bool true, .int .i64 0]) ∧ W.grownBy w' none) := fun W hW => by
    have h := logNeeds_any W gx _ [116, 101, 97, 109] [107] _ _ 150 50 awA [] (hL4.keep hW) (hA4.rd.keep hW) (RdLL.nil _) awI.1 awI.2 ((HT.out.keep hg4).keep hW)
    change Calls _ _ _ _ _ at h
    have e1 : (getM [(awM, f', s')] ([116, 101, 97, 109], [107])).1 = awM := by rw [HH.out.1]
    have e2 : needsM (getM [({ rcv := [116, 101, 97, 109], key := [107], tim := 100, fir := awA, res := [] }, f', s')] ([116, 101, 97, 109], [107])).1 (hasM [({ rcv := [116, 101, 97, 109], key := [107], tim := 100, fir := awA, res := [] }, f', s')] ([116, 101, 97, 109], [107])) 150 50 awA [] = (true, 0) := by
      have := HH.out
      unfold awM at this e1
      rw [this.2, e1]
      exact aw3
    first
      | (rw [e2] at h; exact h)
      | (unfold awM at h; rw [e2] at h; exact h)
  have e2 : needsM (getM [({ rcv := [116, 101, 97, 109], key := [107], tim := 100, fir := awA, res := [] }, f', s')] ([116, 101, 97, 109], [107])).1 (hasM [({ rcv := [116, 101, 97, 109], key := [107], tim := 100, fir := awA, res := [] }, f', s')] ([116, 101, 97, 109], [107])) 120 50 awA [] = (false, 0) := by
    have := HH.out
    have e1 : (getM [(awM, f', s')] ([116, 101, 97, 109], [107])).1 = awM := by rw [HH.out.1]
    unfold awM at this e1
    rw [this.2, e1]
    exact aw2
  rw [e2] at HN
  have H4 := hidJ hg4
  clear hA4 hg4 hL4 g4 H3 e2 HH
  unfold nilV at HN HN2
  go_wp2_with fail
  refine HN.out.mono ?_
  rintro e w5 ⟨rfl, g5⟩
  clear HN
  have H5 := hidJ g5
  clear g5
  go_wp2_with fail
  refine (HN2.out _ H5.out).mono ?_
  rintro e w6 ⟨rfl, g6⟩
  have H6 := hidJ (gb_none (gb_none H4.out H5.out) g6)
  clear HN2 g6
  go_wp2
  go_ret
  exact ⟨rfl, H6.out⟩
end Go.Proofs.YtpglhdnepmcahaaGreatDoor
