/-
  AlPc, AlPd, in one text.
-/
import Derived.Test.YtmgbcmogdjhacaaDoorAlPb
import Derived.Test.YtmgbcmogdjhacaaDoorVE
/- AlPc -/
namespace Go.Proofs.YtmgbcmogdjhacaaDoor
open Go.RowKit Go.Shelf Go.Sort Go.Maps Go.WideMaps

/-- PUT of the document -/
theorem refPut_any (w : World) (T : Nat → Prop) (gr : Nat) (R most now st en : Int) (M : List AlR) (u : Value) (ls : List LbT) (h : RefOK w T gr R most M) (hok : okM most M) (hR : 1 ≤ R ∧ R ≤ 1099511627776) (hu : RdL w u ls) (hl : LbIn ls) :
    Calls Tryd.prog 28 #[.pointer (some ⟨gr, 0, none⟩), .int .i64 now, .agg #[u, .int .i64 st, .int .i64 en]] w fun e w' => e = .returned (.int .i64 (putE R most now ⟨ls, st, en⟩ M)) ∧ RefOK w' (Gr T w w') gr R most (putM R most now ⟨ls, st, en⟩ M) ∧ Ch w w' (fun k => k = gr) := by
  by_cases hd : dateE R now ⟨ls, st, en⟩ = 0
  · obtain ⟨a, c, rfl⟩ : ∃ a c, u = .slice a ls.length c := by obtain ⟨a, c, h, _⟩ := hu; exact ⟨a, c, h⟩
    exact refPut_dated w T gr R most now st en _ _ M a c ls h hok hR hu hl hd rfl rfl
  · refine (refPut_bad w T gr R most now st en M u ls h hR hu hl hd).mono ?_
    rintro e w' ⟨rfl, g⟩
    have e1 : putE R most now ⟨ls, st, en⟩ M = dateE R now ⟨ls, st, en⟩ := by unfold putE; rw [if_pos hd]
    have e2 : putM R most now ⟨ls, st, en⟩ M = M := by unfold putM; rw [if_neg (by rw [e1]; exact hd)]
    rw [e1, e2]
    exact ⟨rfl, h.gr g, gb_ofCh g⟩

/-- labels that may be written over -/
def ShL (W : World) (b : Nat) (v : Value) : Prop := ∃ a n c, v = .slice a n c ∧ n ≤ c ∧ c ≤ 9223372036854775807 ∧ (n = 0 ∨ ∃ g cur, a = some ⟨g, 0, none⟩ ∧ b ≤ g ∧ W.heap[g]? = some (.cells cur 63 (0, 0)) ∧ n * 2 ≤ cur.size)
theorem ShL.set {W : World} {b : Nat} {v : Value} (h : ShL W b v) {g0 j : Nat} {t : TypeId} {cs : Array Value} (hb : W.heap[g0]? = some (.cells cs t (0, 0))) (x : Value) : ShL (W.setCell ⟨g0, j, none⟩ x) b v := by
  obtain ⟨a, n, c, rfl, h1, h2, h3⟩ := h
  refine ⟨a, n, c, rfl, h1, h2, ?_⟩
  rcases h3 with h3 | ⟨g, cur, e, q1, q2, q3⟩
  · exact .inl h3
  · right
    by_cases hg : g = g0
    · subst hg
      rw [hb] at q2
      simp only [Option.some.injEq, Obj.cells.injEq] at q2
      obtain ⟨rfl, rfl, -⟩ := q2
      exact ⟨g, _, e, q1, Go.heap_setCell_same W g j _ _ x hb, by simpa using q3⟩
    · exact ⟨g, cur, e, q1, ((set_ch W g0 j x).block (some_lt2 q2) hg).trans q2, q3⟩
/-- alerts that may be written over, from the one at i on -/
structure ShA (W : World) (b g N i : Nat) (cur : Array Value) : Prop where
  row : W.heap[g]? = some (.cells cur 34 (0, 0))
  big : N * 3 ≤ cur.size
  at_ : b ≤ g
  each : ∀ j, i ≤ j → j < N → ∃ v, cur[j * 3]? = some v ∧ ShL W b v
theorem ShA.put {W : World} {b g N i : Nat} {cur : Array Value} (h : ShA W b g N i cur) (p : Nat) (x : Value) (i' : Nat) (hi : i ≤ i') (hp : ∀ j, i' ≤ j → j * 3 ≠ p) : ShA (W.setCell ⟨g, p, none⟩ x) b g N i' (cur.setIfInBounds p x) where
  row := Go.heap_setCell_same W g p _ _ x h.row
  big := by simpa using h.big
  at_ := h.at_
  each := fun j hj hN => by
    obtain ⟨v, q1, q2⟩ := h.each j (by omega) hN
    refine ⟨v, ?_, q2.set h.row x⟩
    rw [Array.getElem?_setIfInBounds]
    rw [if_neg (fun e => hp j hj e.symm)]
    exact q1
theorem ShA.lab {W : World} {b g N i : Nat} {cur : Array Value} (h : ShA W b g N i cur) {g0 j : Nat} {cs : Array Value} (hb : W.heap[g0]? = some (.cells cs 63 (0, 0))) (x : Value) : ShA (W.setCell ⟨g0, j, none⟩ x) b g N i cur where
  row := by
    have hne : g ≠ g0 := fun e => by
      have := h.row
      rw [e, hb] at this
      simp at this
    exact ((set_ch W g0 j x).block (some_lt2 h.row) hne).trans h.row
  big := h.big
  at_ := h.at_
  each := fun j' hj hN => by
    obtain ⟨v, q1, q2⟩ := h.each j' hj hN
    exact ⟨v, q1, q2.set hb x⟩
theorem ShA.cell {W : World} {b g N i : Nat} {cur : Array Value} (h : ShA W b g N i cur) (p : Nat) : W.cell? ⟨g, p, none⟩ = cur[p]? ∧ W.frozen? ⟨g, p, none⟩ = false := by
  have := h.row
  exact ⟨by simp [World.cell?, this], by simp [World.frozen?, this]⟩
theorem OwnL.shl {W : World} {b : Nat} {v : Value} {ls : List LbT} (h : OwnL W b v ls) : ShL W b v := by
  rcases h.2 with ⟨rfl, hn⟩ | ⟨g, cap, cur, rfl, hbg, hh, hnc, hcm, hcs, htake⟩
  · exact ⟨none, 0, 0, rfl, by omega, by omega, .inl rfl⟩
  · refine ⟨_, _, _, rfl, hnc, by unfold maxLen at hcm; exact hcm, .inr ⟨g, cur, rfl, hbg, hh, ?_⟩⟩
    have : ls.length * 2 ≤ cap * 2 := Nat.mul_le_mul_right _ hnc
    omega
theorem OwnX.sha {W : World} {b : Nat} {v : Value} {l : List AlX} (h : OwnX W b v l) (he : ∀ x ∈ l, OwnL W b x.1 x.2.lbs) (hl : 0 < l.length) : ∃ g c cur, v = .slice (some ⟨g, 0, none⟩) l.length c ∧ l.length ≤ c ∧ c ≤ 9223372036854775807 ∧ ShA W b g l.length 0 cur := by
  have h0 := h
  rcases h.2 with ⟨-, hn⟩ | ⟨g, cap, cur, rfl, hg, hh, hnc, hcm, hcs, ht⟩
  · omega
  · have : l.length * 3 ≤ cap * 3 := Nat.mul_le_mul_right _ hnc
    refine ⟨g, cap, cur, rfl, hnc, by unfold maxLen at hcm; exact hcm, hh, by omega, hg, fun j _ hj => ?_⟩
    obtain ⟨g', c', e, -, d0, -⟩ := h0.cells hj
    simp only [Value.slice.injEq, Option.some.injEq, Addr.mk.injEq] at e
    obtain ⟨⟨rfl, -⟩, -⟩ := e
    simp only [World.cell?, hh] at d0
    refine ⟨(l.getD j xZ).1, by simpa using d0, (he _ (by simp [List.getD, hj])).shl⟩

set_option maxRecDepth 8000 in
set_option maxHeartbeats 6400000 in
theorem refSpoil_in (w : World) (b g N c : Nat) (cur : Array Value) (h : ShA w b g N 0 cur) (hc : N ≤ c) (hcm : c ≤ 9223372036854775807) :
    Calls Tryd.prog 31 #[.slice (some ⟨g, 0, none⟩) N c] w fun e w' => e = .returned (.tuple #[]) ∧ Ch w w' (fun k => b ≤ k) := by
  have HA : Hid (ShA w b g N 0 cur) := h
  clear h
  go_enter Tryd.func31, Tryd.ntmps31
  go_wp2
  go_loopw [2] (fun i wr => ∃ z : Nat, z ≤ N ∧ i = .int .i64 z ∧ Hid (∃ cur', ShA wr b g N z cur' ∧ Ch w wr (fun k => b ≤ k))) (fun i _ => N - (intOf i).toNat)
  case atStart => exact ⟨0, by omega, rfl, cur, HA.out, Ch.refl _ _⟩
  case round =>
    obtain ⟨z, hz, rfl, HJ⟩ := hrel
    clear HA
    by_cases hzl : z < N
    · have hzi : (z : Int) < (N : Int) := by omega
      obtain ⟨cur1, hA1, hC1⟩ := HJ.out
      obtain ⟨v, hv, ⟨a, n, d, rfl, hnd, hdm, hsh⟩⟩ := hA1.each z (Nat.le_refl _) hzl
      have HJ1 : Hid (ShA wr b g N z cur1 ∧ Ch w wr (fun k => b ≤ k) ∧ cur1[z * 3]? = some (.slice a n d)) := ⟨hA1, hC1, hv⟩
      have HSh : Hid (n = 0 ∨ ∃ g1, a = some ⟨g1, 0, none⟩ ∧ b ≤ g1 ∧ ∃ cs, wr.heap[g1]? = some (.cells cs 63 (0, 0)) ∧ n * 2 ≤ cs.size) := by
        rcases hsh with e | ⟨g1, cs, e, q1, q2, q3⟩
        · exact .inl e
        · exact .inr ⟨g1, e, q1, cs, q2, q3⟩
      clear hA1 hC1 hv hsh HJ
      obtain ⟨W1, hW1⟩ : ∃ W1, wr = W1 := ⟨_, rfl⟩
      rw [hW1] at HJ1 HSh ⊢
      clear hW1
      go_wp2
      go_loopw [3] (fun i wr => ∃ y : Nat, y ≤ n ∧ i = .int .i64 y ∧ Hid (ShA wr b g N z cur1 ∧ Ch w wr (fun k => b ≤ k) ∧ cur1[z * 3]? = some (.slice a n d) ∧ (n = 0 ∨ ∃ g1, a = some ⟨g1, 0, none⟩ ∧ b ≤ g1 ∧ ∃ cs, wr.heap[g1]? = some (.cells cs 63 (0, 0)) ∧ n * 2 ≤ cs.size))) (fun i _ => n - (intOf i).toNat)
      case atStart => exact ⟨0, by omega, rfl, HJ1.out.1, HJ1.out.2.1, HJ1.out.2.2, HSh.out⟩
      case round =>
        obtain ⟨y, hy, rfl, HK⟩ := hrel
        clear HJ1 HSh
        have c0 : wr.cell? ⟨g, z * 3, none⟩ = some (.slice a n d) := (HK.out.1.cell _).1.trans HK.out.2.2.1
        have f0 := (HK.out.1.cell (z * 3)).2
        have f1 := (HK.out.1.cell (z * 3 + 1)).2
        obtain ⟨u1, c1⟩ : ∃ u1, wr.cell? ⟨g, z * 3 + 1, none⟩ = some u1 := by
          refine ⟨cur1[z * 3 + 1]'?_, (HK.out.1.cell _).1.trans (Array.getElem?_eq_getElem _)⟩
          have := HK.out.1.big
          omega
        by_cases hyl : y < n
        · have hyi : (y : Int) < (n : Int) := by omega
          obtain ⟨g1, rfl, hbg, cs, hcs, hsz⟩ : ∃ g1, a = some ⟨g1, 0, none⟩ ∧ b ≤ g1 ∧ ∃ cs, wr.heap[g1]? = some (.cells cs 63 (0, 0)) ∧ n * 2 ≤ cs.size := by
            rcases HK.out.2.2.2 with e | e
            · omega
            · exact e
          obtain ⟨u2, c2⟩ : ∃ u2, wr.cell? ⟨g1, y * 2 + 1, none⟩ = some u2 := ⟨cs[y * 2 + 1]'(by omega), by simp [World.cell?, hcs, show y * 2 + 1 < cs.size by omega]⟩
          have f2 : wr.frozen? ⟨g1, y * 2 + 1, none⟩ = false := by simp [World.frozen?, hcs]
          have HN : Hid (∀ x, ShA (wr.setCell ⟨g1, y * 2 + 1, none⟩ x) b g N z cur1 ∧ Ch w (wr.setCell ⟨g1, y * 2 + 1, none⟩ x) (fun k => b ≤ k) ∧ cur1[z * 3]? = some (.slice (some ⟨g1, 0, none⟩) n d) ∧ (n = 0 ∨ ∃ g2, (some ⟨g1, 0, none⟩ : Option Addr) = some ⟨g2, 0, none⟩ ∧ b ≤ g2 ∧ ∃ cs, (wr.setCell ⟨g1, y * 2 + 1, none⟩ x).heap[g2]? = some (.cells cs 63 (0, 0)) ∧ n * 2 ≤ cs.size)) := fun x =>
            ⟨HK.out.1.lab hcs x, HK.out.2.1.trans (set_ch _ _ _ _) (fun k _ e => by have e' : k = g1 := e; show b ≤ k; omega), HK.out.2.2.1, .inr ⟨g1, rfl, hbg, _, Go.heap_setCell_same wr g1 _ _ _ x hcs, by simpa using hsz⟩⟩
          clear HK hcs hsz f0 f1 c1
          go_wp2
          go_roundw
          case rel => exact ⟨y + 1, by omega, by go_num, HN.out _⟩
          case measure => simp [intOf]; omega
        · have hyi : ¬ (y : Int) < (n : Int) := by omega
          have HN : Hid (∀ x1 x2, ∃ cur', ShA ((wr.setCell ⟨g, z * 3 + 1, none⟩ x1).setCell ⟨g, z * 3, none⟩ x2) b g N (z + 1) cur' ∧ Ch w ((wr.setCell ⟨g, z * 3 + 1, none⟩ x1).setCell ⟨g, z * 3, none⟩ x2) (fun k => b ≤ k)) := fun x1 x2 => by
            have s1 := HK.out.1.put (z * 3 + 1) x1 z (Nat.le_refl _) (fun j hj e => by omega)
            have s2 := s1.put (z * 3) x2 (z + 1) (by omega) (fun j hj e => by omega)
            have hbg := HK.out.1.at_
            exact ⟨_, s2, (HK.out.2.1.trans (set_ch _ _ _ _) (fun k _ e => by have e' : k = g := e; show b ≤ k; omega)).trans (set_ch _ _ _ _) (fun k _ e => by have e' : k = g := e; show b ≤ k; omega)⟩
          clear HK
          go_wp2
          go_roundw
          case rel => exact ⟨z + 1, by omega, by go_num, HN.out _ _⟩
          case measure => simp [intOf]; omega
    · have hzi : ¬ (z : Int) < (N : Int) := by omega
      obtain ⟨cur1, hA1, hC1⟩ := HJ.out
      have HC := hidJ hC1
      clear hA1 hC1 HJ
      go_wp2
      go_end0
      exact ⟨rfl, HC.out⟩
set_option maxHeartbeats 800000 in
theorem refSpoil_nil (w : World) (a : Option Addr) (c : Nat) : Calls Tryd.prog 31 #[.slice a 0 c] w fun e w' => e = .returned (.tuple #[]) ∧ w' = w := by
  go_enter Tryd.func31, Tryd.ntmps31
  go_wp2
  go_loopw [2] (fun i wr => i = .int .i64 0 ∧ wr = w) (fun _ _ => 0)
  case atStart => exact ⟨rfl, rfl⟩
  case round =>
    obtain ⟨rfl, hw⟩ := hrel
    have hw := hw.symm
    subst hw
    go_wp2
    go_end0
    exact ⟨rfl, rfl⟩
theorem refSpoil_any (w : World) (b : Nat) (v : Value) (l : List AlX) (h : OwnX w b v l) (he : ∀ x ∈ l, OwnL w b x.1 x.2.lbs) :
    Calls Tryd.prog 31 #[v] w fun e w' => e = .returned (.tuple #[]) ∧ Ch w w' (fun k => b ≤ k) := by
  by_cases hl : 0 < l.length
  · obtain ⟨g, c, cur, rfl, h1, h2, h3⟩ := h.sha he hl
    exact refSpoil_in w b g l.length c cur h3 h1 h2
  · obtain ⟨a, c, e⟩ := h.shape
    have h0 : l.length = 0 := by omega
    rw [h0] at e
    subst e
    refine (refSpoil_nil w a c).mono ?_
    rintro e w' ⟨rfl, rfl⟩
    exact ⟨rfl, Ch.refl _ _⟩
end Go.Proofs.YtmgbcmogdjhacaaDoor

/- AlPd -/
namespace Go.Proofs.YtmgbcmogdjhacaaDoor
open Go.RowKit Go.Shelf Go.Sort Go.Maps Go.WideMaps

/-- both sets, apart; the blocks from lo to hi are of neither -/
def DuA (w : World) (gx gr : Nat) (R most : Int) (M Mr : List AlR) (lo hi : Nat) (W : World) : Prop :=
  ∃ S T, SetB W S gx R most M ∧ RefOK W T gr R most Mr ∧ (∀ k, S k → ¬ T k) ∧ (∀ k, S k → w.heap.size ≤ k) ∧ (∀ k, T k → w.heap.size ≤ k ∧ k < W.heap.size) ∧ (∀ k, lo ≤ k → k < hi → ¬ S k ∧ ¬ T k) ∧ hi ≤ W.heap.size ∧ w.grownBy W none
theorem DuA.gb {w W : World} {gx gr : Nat} {R most : Int} {M Mr : List AlR} {lo hi : Nat} (h : DuA w gx gr R most M Mr lo hi W) : w.grownBy W none := by
  obtain ⟨S, T, -, -, -, -, -, -, -, h⟩ := h
  exact h
theorem DuA.ok {w W : World} {gx gr : Nat} {R most : Int} {M Mr : List AlR} {lo hi : Nat} (h : DuA w gx gr R most M Mr lo hi W) : okM most M := by
  obtain ⟨S, T, ⟨⟨_, _, _, h1⟩, _⟩, _⟩ := h
  exact h1.ok
theorem DuA.keep {w W W' : World} {gx gr : Nat} {R most : Int} {M Mr : List AlR} {lo hi : Nat} (h : DuA w gx gr R most M Mr lo hi W) (hg : W.grownBy W' none) : DuA w gx gr R most M Mr lo hi W' := by
  obtain ⟨S, T, h1, h2, h3, h4, h5, h6, h7, h8⟩ := h
  exact ⟨S, T, h1.keep hg, h2.keep hg, h3, h4, fun k hk => ⟨(h5 k hk).1, Nat.lt_of_lt_of_le (h5 k hk).2 hg.size⟩, h6, Nat.le_trans h7 hg.size, gb_none h8 hg⟩
/-- what is new is of neither -/
theorem DuA.wide {w W W' : World} {gx gr : Nat} {R most : Int} {M Mr : List AlR} {lo hi : Nat} (h : DuA w gx gr R most M Mr lo hi W) (hg : W.grownBy W' none) : DuA w gx gr R most M Mr W.heap.size W'.heap.size W' := by
  obtain ⟨S, T, h1, h2, h3, h4, h5, h6, h7, h8⟩ := h
  exact ⟨S, T, h1.keep hg, h2.keep hg, h3, h4, fun k hk => ⟨(h5 k hk).1, Nat.lt_of_lt_of_le (h5 k hk).2 hg.size⟩, fun k hk _ => ⟨fun e => by have := h1.2 k e; omega, fun e => by have := (h5 k e).2; omega⟩, Nat.le_refl _, gb_none h8 hg⟩
theorem DuA.less {w W : World} {gx gr : Nat} {R most : Int} {M Mr : List AlR} {lo hi : Nat} (h : DuA w gx gr R most M Mr lo hi W) : DuA w gx gr R most M Mr 0 0 W := by
  obtain ⟨S, T, h1, h2, h3, h4, h5, h6, h7, h8⟩ := h
  exact ⟨S, T, h1, h2, h3, h4, h5, fun k _ hk => by omega, Nat.zero_le _, h8⟩
/-- writing in what is of neither -/
theorem DuA.free {w W W' : World} {gx gr : Nat} {R most : Int} {M Mr : List AlR} {lo hi : Nat} (h : DuA w gx gr R most M Mr lo hi W) (hw : w.heap.size ≤ lo) (hc : Ch W W' (fun k => lo ≤ k ∧ k < hi)) : DuA w gx gr R most M Mr lo hi W' := by
  obtain ⟨S, T, ⟨⟨gm, D, hv, h1⟩, h1b⟩, h2, h3, h4, h5, h6, h7, h8⟩ := h
  refine ⟨S, T, ⟨⟨gm, D, hv, h1.frame hc (fun k _ hk e => (h6 k e.1 e.2).1 hk)⟩, fun k hk => Nat.lt_of_lt_of_le (h1b k hk) hc.size⟩, h2.frame hc (fun k hk e => (h6 k e.1 e.2).2 hk), h3, h4, fun k hk => ⟨(h5 k hk).1, Nat.lt_of_lt_of_le (h5 k hk).2 hc.size⟩, h6, Nat.le_trans h7 hc.size, gb_ch h8 hc (fun k e => Nat.le_trans hw e.1)⟩
theorem DuA.put1 {w W : World} {gx gr : Nat} {R most : Int} {M Mr : List AlR} {lo hi : Nat} (h : DuA w gx gr R most M Mr lo hi W) (hT : U8S w) (now st en : Int) {u : Value} {ls : List LbT} (hu : RdL W u ls) (hl : LbIn ls) :
    Calls Tryd.prog 17 #[.pointer (some ⟨gx, 0, none⟩), .int .i64 now, .agg #[u, .int .i64 st, .int .i64 en]] W fun e w' => e = .returned (.int .i64 (putE R most now ⟨ls, st, en⟩ M)) ∧ DuA w gx gr R most (putM R most now ⟨ls, st, en⟩ M) Mr lo hi w' ∧ ∀ k, lo ≤ k → k < hi → w'.heap[k]? = W.heap[k]? := by
  obtain ⟨S, T, h1, h2, h3, h4, h5, h6, h7, h8⟩ := h
  refine (setB_put W S gx R most now st en M u ls h1 hu hl (hT.keep h8)).mono ?_
  rintro e w' ⟨rfl, q1, q2⟩
  refine ⟨rfl, ⟨_, T, q1, h2.frame q2 (fun k hk e => h3 k e hk), fun k hk => ?_, fun k hk => ?_, fun k hk => ⟨(h5 k hk).1, Nat.lt_of_lt_of_le (h5 k hk).2 q2.size⟩, fun k hk hk2 => ⟨fun e => ?_, (h6 k hk hk2).2⟩, Nat.le_trans h7 q2.size, gb_ch h8 q2 h4⟩, fun k hk hk2 => q2.block (by omega) (h6 k hk hk2).1⟩
  · rcases hk with hk | hk
    · exact h3 k hk
    · intro e
      have := (h5 k e).2
      omega
  · rcases hk with hk | hk
    · exact h4 k hk
    · exact Nat.le_trans h8.size hk.1
  · rcases e with e | e
    · exact (h6 k hk hk2).1 e
    · omega
theorem gr_sub {T : Nat → Prop} {W W' : World} {k : Nat} (h : Gr T W W' k) : T k ∨ (W.heap.size ≤ k ∧ k < W'.heap.size) := h
theorem DuA.ref {w W w' : World} {gx gr : Nat} {R most : Int} {M Mr Mr' : List AlR} {lo hi : Nat} {S T : Nat → Prop} (h1 : SetB W S gx R most M) (h2 : RefOK W T gr R most Mr) (h3 : ∀ k, S k → ¬ T k) (h4 : ∀ k, S k → w.heap.size ≤ k) (h5 : ∀ k, T k → w.heap.size ≤ k ∧ k < W.heap.size) (h6 : ∀ k, lo ≤ k → k < hi → ¬ S k ∧ ¬ T k) (h7 : hi ≤ W.heap.size) (h8 : w.grownBy W none)
    (q1 : RefOK w' (Gr T W w') gr R most Mr') (q2 : Ch W w' (fun k => k = gr)) : DuA w gx gr R most M Mr' lo hi w' ∧ ∀ k, lo ≤ k → k < hi → w'.heap[k]? = W.heap[k]? := by
  have hgr : T gr := by obtain ⟨v, l, h⟩ := h2; exact h.inB
  obtain ⟨⟨gm, D, hv, p1⟩, p2⟩ := h1
  refine ⟨⟨S, _, ⟨⟨gm, D, hv, p1.frame q2 (fun k _ hk e => h3 k hk (by have e' : k = gr := e; rw [e']; exact hgr))⟩, fun k hk => Nat.lt_of_lt_of_le (p2 k hk) q2.size⟩, q1, fun k hk e => ?_, h4, fun k hk => ?_, fun k hk hk2 => ⟨(h6 k hk hk2).1, fun e => ?_⟩, Nat.le_trans h7 q2.size, gb_ch h8 q2 (fun k e => by have e' : k = gr := e; rw [e']; exact (h5 gr hgr).1)⟩, fun k hk hk2 => q2.block (by omega) (fun e => (h6 k hk hk2).2 (by have e' : k = gr := e; rw [e']; exact hgr))⟩
  · rcases e with e | e
    · exact h3 k hk e
    · have := p2 k hk
      omega
  · rcases hk with hk | hk
    · exact ⟨(h5 k hk).1, Nat.lt_of_lt_of_le (h5 k hk).2 q2.size⟩
    · exact ⟨Nat.le_trans h8.size hk.1, hk.2⟩
  · rcases e with e | e
    · exact (h6 k hk hk2).2 e
    · omega
theorem DuA.put2 {w W : World} {gx gr : Nat} {R most : Int} {M Mr : List AlR} {lo hi : Nat} (h : DuA w gx gr R most M Mr lo hi W) (hok : okM most Mr) (hR : 1 ≤ R ∧ R ≤ 1099511627776) (now st en : Int) {u : Value} {ls : List LbT} (hu : RdL W u ls) (hl : LbIn ls) :
    Calls Tryd.prog 28 #[.pointer (some ⟨gr, 0, none⟩), .int .i64 now, .agg #[u, .int .i64 st, .int .i64 en]] W fun e w' => e = .returned (.int .i64 (putE R most now ⟨ls, st, en⟩ Mr)) ∧ DuA w gx gr R most M (putM R most now ⟨ls, st, en⟩ Mr) lo hi w' := by
  obtain ⟨S, T, h1, h2, h3, h4, h5, h6, h7, h8⟩ := h
  refine (refPut_any W T gr R most now st en Mr u ls h2 hok hR hu hl).mono ?_
  rintro e w' ⟨rfl, q1, q2⟩
  exact ⟨rfl, (DuA.ref h1 h2 h3 h4 h5 h6 h7 h8 q1 q2).1⟩
/-- Sweep of both -/
instance (now keep : Int) : Decidable (swBad now keep) := by unfold swBad; infer_instance
def swN (now keep : Int) (M : List AlR) : Int := if swBad now keep then 0 else (M.length : Int) - ((sweepM now keep M).length : Int)
def swE (now keep : Int) : Int := if swBad now keep then 1 else 0
def swL (now keep : Int) (M : List AlR) : List AlR := if swBad now keep then M else sweepM now keep M
theorem DuA.sweep1 {w W : World} {gx gr : Nat} {R most : Int} {M Mr : List AlR} {lo hi : Nat} (h : DuA w gx gr R most M Mr lo hi W) (now keep : Int) :
    Calls Tryd.prog 15 #[.pointer (some ⟨gx, 0, none⟩), .int .i64 now, .int .i64 keep] W fun e w' => e = .returned (.tuple #[.int .i64 (swN now keep M), .int .i64 (swE now keep)]) ∧ DuA w gx gr R most (swL now keep M) Mr lo hi w' ∧ ∀ k, lo ≤ k → k < hi → w'.heap[k]? = W.heap[k]? := by
  unfold swN swE swL
  by_cases hb : swBad now keep
  · rw [if_pos hb, if_pos hb, if_pos hb]
    refine (sweep_bad W gx now keep hb).mono ?_
    rintro e w' ⟨rfl, rfl⟩
    exact ⟨rfl, h, fun _ _ _ => rfl⟩
  · rw [if_neg hb, if_neg hb, if_neg hb]
    obtain ⟨S, T, ⟨⟨gm, D, hv, p1⟩, p2⟩, h2, h3, h4, h5, h6, h7, h8⟩ := h
    refine (sweep_ok W S gx R most now keep M gm D hv p1 hb).mono ?_
    rintro e w' ⟨rfl, q1, q2⟩
    exact ⟨rfl, ⟨S, T, ⟨q1, fun k hk => Nat.lt_of_lt_of_le (p2 k hk) q2.size⟩, h2.frame q2 (fun k hk e => h3 k e hk), h3, h4, fun k hk => ⟨(h5 k hk).1, Nat.lt_of_lt_of_le (h5 k hk).2 q2.size⟩, h6, Nat.le_trans h7 q2.size, gb_ch h8 q2 h4⟩, fun k hk hk2 => q2.block (by omega) (h6 k hk hk2).1⟩
theorem DuA.sweep2 {w W : World} {gx gr : Nat} {R most : Int} {M Mr : List AlR} {lo hi : Nat} (h : DuA w gx gr R most M Mr lo hi W) (hM : Mr.length ≤ 500) (now keep : Int) :
    Calls Tryd.prog 29 #[.pointer (some ⟨gr, 0, none⟩), .int .i64 now, .int .i64 keep] W fun e w' => e = .returned (.tuple #[.int .i64 (swN now keep Mr), .int .i64 (swE now keep)]) ∧ DuA w gx gr R most M (swL now keep Mr) lo hi w' := by
  unfold swN swE swL
  by_cases hb : swBad now keep
  · rw [if_pos hb, if_pos hb, if_pos hb]
    refine (refSweep_bad W gr now keep hb).mono ?_
    rintro e w' ⟨rfl, rfl⟩
    exact ⟨rfl, h⟩
  · rw [if_neg hb, if_neg hb, if_neg hb]
    obtain ⟨S, T, h1, h2, h3, h4, h5, h6, h7, h8⟩ := h
    refine (refSweep_ok W T gr R most now keep Mr h2 hM hb).mono ?_
    rintro e w' ⟨rfl, q1, q2⟩
    exact ⟨rfl, (DuA.ref h1 h2 h3 h4 h5 h6 h7 h8 q1 q2).1⟩
theorem DuA.get {w W : World} {gx gr : Nat} {R most : Int} {M Mr : List AlR} {lo hi : Nat} (h : DuA w gx gr R most M Mr lo hi W) (hT : U8S w) {u : Value} {ls : List LbT} (hu : RdL W u ls) (hl : LbIn ls) :
    Calls Tryd.prog 16 #[.pointer (some ⟨gx, 0, none⟩), u] W fun e w' => ∃ x n d, e = .returned (.tuple #[.agg #[.slice x n d, .int .i64 (getA M ls).st, .int .i64 (getA M ls).en], .bool (findA M ls).isSome]) ∧ n = (getA M ls).lbs.length ∧ OwnL w' W.heap.size (.slice x n d) (getA M ls).lbs ∧ W.grownBy w' none := by
  obtain ⟨S, T, h1, h2, h3, h4, h5, h6, h7, h8⟩ := h
  refine (get_any W S gx R most M u ls h1.1 hu hl (hT.keep h8)).mono ?_
  rintro e w' ⟨v', rfl, t1, t2⟩
  obtain ⟨x, d, e⟩ := t1.shape
  subst e
  exact ⟨x, _, d, rfl, rfl, t1, t2⟩
theorem DuA.fire1 {w W : World} {gx gr : Nat} {R most : Int} {M Mr : List AlR} {lo hi : Nat} (h : DuA w gx gr R most M Mr lo hi W) (now : Int) :
    Calls Tryd.prog 21 #[.pointer (some ⟨gx, 0, none⟩), .int .i64 now] W fun e w' => ∃ a c l, e = .returned (.slice a l.length c) ∧ OwnX w' W.heap.size (.slice a l.length c) l ∧ l.map (·.2) = fireM now M ∧ (∀ x ∈ l, OwnL w' W.heap.size x.1 x.2.lbs) ∧ W.grownBy w' none := by
  obtain ⟨S, T, h1, h2, h3, h4, h5, h6, h7, h8⟩ := h
  refine (firing_any W (.pointer (some ⟨gx, 0, none⟩)) now M ⟨_, rfl⟩ h1.ptr).mono ?_
  rintro e w' ⟨v', l, rfl, t1, t2, t3, t4⟩
  obtain ⟨a, c, e⟩ := t1.shape
  subst e
  exact ⟨a, c, l, rfl, t1, t2, t3, t4⟩
theorem DuA.fire2 {w W : World} {gx gr : Nat} {R most : Int} {M Mr : List AlR} {lo hi : Nat} (h : DuA w gx gr R most M Mr lo hi W) (hM : Mr.length ≤ 500) (now : Int) :
    Calls Tryd.prog 32 #[.pointer (some ⟨gr, 0, none⟩), .int .i64 now] W fun e w' => ∃ a n c, e = .returned (.slice a n c) ∧ RdX w' (.slice a n c) (fireM now Mr) ∧ W.grownBy w' none := by
  obtain ⟨S, T, h1, h2, h3, h4, h5, h6, h7, h8⟩ := h
  refine (refFiring_any W T gr R most now Mr h2 hM).mono ?_
  rintro e w' ⟨v', rfl, t1, t2⟩
  obtain ⟨a, c, e, -⟩ := id t1
  subst e
  exact ⟨a, _, c, rfl, t1, t2⟩
theorem DuA.box {w W : World} {gx gr : Nat} {R most : Int} {M Mr : List AlR} {lo hi : Nat} (h : DuA w gx gr R most M Mr lo hi W) : ∃ a c, W.cell? ⟨gr, 2, none⟩ = some (.slice a Mr.length c) ∧ Mr.length ≤ c ∧ c ≤ 9223372036854775807 ∧ RdX W (.slice a Mr.length c) Mr ∧ ∀ W', W.grownBy W' none → W'.cell? ⟨gr, 2, none⟩ = some (.slice a Mr.length c) := by
  obtain ⟨S, T, h1, ⟨v, l, h2⟩, h3, h4, h5, h6, h7, h8⟩ := h
  obtain ⟨a, c, e⟩ := h2.shape
  subst e
  have hx := h2.rdx
  obtain ⟨a', c', e, hc1, hc2, -⟩ := id hx
  simp only [Value.slice.injEq] at e
  obtain ⟨rfl, -, rfl⟩ := e
  exact ⟨a, c, h2.box.cells.2.2.1, hc1, hc2, hx, fun W' hg => (h2.box.keep hg).cells.2.2.1⟩
end Go.Proofs.YtmgbcmogdjhacaaDoor
