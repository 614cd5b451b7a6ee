/-
  Nfs, Nkn, Nko, Nkp, in one text.
-/
import Derived.Test.YtpglhdnepmcahaaGreatDoorNgA
import Derived.Test.YtpglhdnepmcahaaGreatDoorHmD
/- Nfs -/
namespace Go.Proofs.YtpglhdnepmcahaaGreatDoor
open Go.RowKit Go.Shelf Go.Sort

/-- spoil between two rounds: all that is written was made behind w0 -/
structure SpJ (w0 : World) (v : Value) (vs : List Value) (wr : World) : Prop where
  old : w0.grownBy wr none
  row : OwnVs wr w0.heap.size v vs
  each : ∀ j, ∃ m : List LbT, OwnL wr w0.heap.size (vs.getD j nilV) m
theorem SpJ.set {w0 wr : World} {v : Value} {vs : List Value} (h : SpJ w0 v vs wr) {g : Nat} {m : List LbT} {n c : Nat} (ho : OwnL wr w0.heap.size (.slice (some ⟨g, 0, none⟩) n c) m) (j : Nat) (x : LbT) :
    SpJ w0 v vs ((wr.setCell ⟨g, j * 2, none⟩ (.string (ByteArray.mk ⟨x.1⟩))).setCell ⟨g, j * 2 + 1, none⟩ (.string (ByteArray.mk ⟨x.2⟩))) := by
  obtain ⟨k1, k2⟩ := ho.set j x
  have hgb : w0.heap.size ≤ g := (World.ownsRow.lt ho g rfl).1
  refine ⟨gb_new h.old k2 (fun k hk => by cases hk; exact hgb), ?_, fun i => ?_⟩
  · refine row_via h.row (fun k hk => k2.block k ?_ ?_)
    · exact (World.ownsRow.lt h.row k hk).2
    · intro e
      cases e
      obtain ⟨cur, q1⟩ := row_objE h.row hk
      obtain ⟨cur', q2⟩ := row_objE ho (rfl : (Value.slice (some ⟨g, 0, none⟩) n c).ownBlock = some g)
      rw [q1] at q2
      simp at q2
  · obtain ⟨m', hm'⟩ := h.each i
    obtain ⟨a, c', e⟩ := hm'.shape
    by_cases hb : (vs.getD i nilV).ownBlock = some g
    · have hm2 := hm'
      rcases hm'.2 with ⟨e1, -⟩ | ⟨g', cap, cur, e1, r⟩
      · rw [e1] at hb
        simp [Value.ownBlock] at hb
      · rw [e1] at hb hm2 ⊢
        simp only [Value.ownBlock, Option.some.injEq] at hb
        first | subst hb | (have hb2 : g' = g := by simpa [Value.ownBlock] using hb; subst hb2)
        exact ⟨m'.set j x, (hm2.set j x).1⟩
    · exact ⟨m', row_via hm' (fun k hk => k2.block k (World.ownsRow.lt hm' k hk).2 (fun e => hb (by rw [hk, e])))⟩
theorem SpJ.clr {w0 wr : World} {g N c : Nat} {vs : List Value} (h : SpJ w0 (.slice (some ⟨g, 0, none⟩) N c) vs wr) (z : Nat) :
    SpJ w0 (.slice (some ⟨g, 0, none⟩) N c) (vs.set z nilV) (wr.setCell ⟨g, z, none⟩ nilV) := by
  have hN : N = vs.length := by
    rcases h.row.2 with ⟨h', _⟩ | ⟨_, _, _, h', _⟩
    · simp at h'
    · simp at h'; exact h'.2.1
  subst hN
  have hgb : w0.heap.size ≤ g := (World.ownsRow.lt h.row g rfl).1
  obtain ⟨k1, k2⟩ := World.ownsRow.stored h.row z nilV
  refine ⟨gb_new h.old k2 (fun k hk => by cases hk; exact hgb), ?_, fun i => ?_⟩
  · unfold OwnVs
    rw [List.length_set]
    exact k1
  · by_cases e : z = i
    · refine ⟨[], ?_⟩
      have e2 : (vs.set z nilV).getD i nilV = nilV := by
        simp only [List.getD, e, List.getElem?_set]
        by_cases hl : i < vs.length <;> simp [hl]
      rw [e2]
      exact World.ownsRow_nil _ _ _ _
    · obtain ⟨m', hm'⟩ := h.each i
      have e2 : (vs.set z nilV).getD i nilV = vs.getD i nilV := by simp [List.getD, e]
      rw [e2]
      refine ⟨m', row_via hm' (fun k hk => k2.block k (World.ownsRow.lt hm' k hk).2 (fun e => ?_))⟩
      cases e
      obtain ⟨cur, q1⟩ := row_objE hm' hk
      obtain ⟨cur', q2⟩ := row_objE h.row (rfl : (Value.slice (some ⟨g, 0, none⟩) vs.length c).ownBlock = some g)
      rw [q1] at q2
      simp at q2
set_option maxRecDepth 8000 in
set_option maxHeartbeats 3200000 in
theorem spoilS_any (w0 w : World) (v : Value) (lss : List (List LbT)) (h0 : w0.grownBy w none) (hv : OwnLL w w0.heap.size v lss) :
    Calls Tryz.prog 20 #[v] w fun e w' => e = .returned (.tuple #[]) ∧ w0.grownBy w' none := by
  obtain ⟨vs0, h1, h2, h3⟩ := hv
  have H0 : Hid (SpJ w0 v vs0 w) := ⟨h0, h1, fun j => ⟨_, h3 j⟩⟩
  obtain ⟨a, c, rfl⟩ := h1.shape
  have hn0 : vs0.length ≤ 9223372036854775807 := by
    rcases h1.2 with ⟨-, h'⟩ | ⟨g, cap, cur, e, -, -, hnc, hcm, -⟩
    · omega
    · unfold maxLen at hcm; omega
  clear h0 h1 h2 h3
  obtain ⟨n, hn⟩ : ∃ n, vs0.length = n := ⟨_, rfl⟩
  have HN := hidJ hn
  rw [hn] at H0 hn0
  rw [hn]
  clear hn
  go_enter Tryz.func20, Tryz.ntmps20
  go_wp2
  go_loopw [6] (fun i wr => ∃ z : Nat, z ≤ n ∧ i = .int .i64 z ∧ Hid (∃ vs, vs.length = n ∧ SpJ w0 (.slice a n c) vs wr)) (fun i _ => n - (intOf i).toNat)
  case atStart => exact ⟨0, by omega, rfl, vs0, HN.out, H0.out⟩
  case round =>
    obtain ⟨z, hzN, rfl, hr⟩ := hrel
    clear H0 HN
    obtain ⟨vs, hvn, hr⟩ := hr.out
    have HR := hidJ hr
    have HVN := hidJ hvn
    clear hr hvn
    by_cases hzl : z < n
    · have hzi : (z : Int) < (n : Int) := by omega
      obtain ⟨g, c2, he, hc1, hc2, hbg, d0, d1, hgl⟩ := HR.out.row.cell (j := z) (by have := HVN.out; omega)
      simp only [Value.slice.injEq] at he
      obtain ⟨rfl, -, rfl⟩ := he
      obtain ⟨m, hm⟩ := HR.out.each z
      obtain ⟨ua, uc, eu⟩ := hm.shape
      have HU : Hid (vs.getD z nilV = .slice ua m.length uc) := eu
      have hml : m.length ≤ 9223372036854775807 := by
        rcases hm.2 with ⟨-, h'⟩ | ⟨g, cap, cur, e, -, -, hnc, hcm, -⟩
        · omega
        · unfold maxLen at hcm; omega
      rw [eu] at d0
      clear eu hm
      obtain ⟨ml, hmm⟩ : ∃ ml, m.length = ml := ⟨_, rfl⟩
      rw [hmm] at d0 HU hml
      clear hmm
      have hzc : z < c := by have := HVN.out; omega
      clear hc1 hbg hgl d1
      go_wp2
      go_loopw [14] (fun i wr2 => ∃ k : Nat, k ≤ ml ∧ i = .int .i64 k ∧ Hid (SpJ w0 (.slice (some ⟨g, 0, none⟩) n c) vs wr2)) (fun i _ => ml - (intOf i).toNat)
      case atStart => exact ⟨0, by omega, rfl, HR.out⟩
      case round =>
        obtain ⟨k, hkN, rfl, hr⟩ := hrel
        clear HR d0
        obtain ⟨g', c3, he, -, -, -, d0, d1, -⟩ := hr.out.row.cell (j := z) (by have := HVN.out; omega)
        simp only [Value.slice.injEq, Option.some.injEq, Addr.mk.injEq] at he
        obtain ⟨⟨rfl, -, -⟩, -, rfl⟩ := he
        have HU2 := HU.out
        by_cases hkl : k < ml
        · have hki : (k : Int) < (ml : Int) := by omega
          obtain ⟨m2, hm2⟩ := hr.out.each z
          rw [HU2] at d0 hm2
          have hm2l : m2.length = ml := by
            obtain ⟨_, _, e⟩ := hm2.shape
            simp only [Value.slice.injEq] at e
            exact e.2.1.symm
          obtain ⟨b, cap, he, -, -, hcap, hcm, hcell⟩ := hm2.form (by omega)
          rw [hm2l] at he hcap
          simp only [Value.slice.injEq] at he
          obtain ⟨rfl, -, rfl⟩ := he
          obtain ⟨c0, c1⟩ := hcell k (by omega)
          have f0 := hm2.frozen (k * 2)
          have f1 := hm2.frozen (k * 2 + 1)
          have hst : Hid (SpJ w0 (.slice (some ⟨g, 0, none⟩) n c) vs ((wr.setCell ⟨b, k * 2, none⟩ (.string (ByteArray.mk ⟨spB⟩))).setCell ⟨b, k * 2 + 1, none⟩ (.string (ByteArray.mk ⟨[]⟩)))) := hr.out.set hm2 k (spB, [])
          clear hcell hr hm2 HU2 hm2l
          generalize ByteArray.mk ⟨(m2.getD k ([], [])).1⟩ = o1 at *
          generalize ByteArray.mk ⟨(m2.getD k ([], [])).2⟩ = o2 at *
          go_wp2
          go_roundw
          case rel => exact ⟨k + 1, by omega, by go_num, hst⟩
          case measure => simp [intOf]; omega
        · have hki : ¬ (k : Int) < (ml : Int) := by omega
          rw [HU2] at d0
          have hst : Hid (∃ vs, vs.length = n ∧ SpJ w0 (.slice (some ⟨g, 0, none⟩) n c) vs (wr.setCell ⟨g, z, none⟩ (.slice none 0 0))) := ⟨vs.set z nilV, by rw [List.length_set]; exact HVN.out, hr.out.clr z⟩
          clear hr HU2 HU HVN
          go_wp2
          go_roundw
          case rel => exact ⟨z + 1, by omega, by go_num, hst⟩
          case measure => simp [intOf]; omega
    · have hzi : ¬ (z : Int) < (n : Int) := by omega
      have HF := hidJ HR.out.old
      clear HR HVN
      go_wp2
      go_end0
      exact ⟨rfl, HF.out⟩
end Go.Proofs.YtpglhdnepmcahaaGreatDoor

/- Nkn -/
namespace Go.Proofs.YtpglhdnepmcahaaGreatDoor
open Go.RowKit Go.Shelf Go.Sort

/-- spoil between two rounds: the row, its lists (each as it was, or nothing), and K, which no store into them hurts -/
structure SpK (b : Nat) (v : Value) (vs0 : List Value) (K : World → Prop) (vs : List Value) (wr : World) : Prop where
  row : OwnVs wr b v vs
  each : ∀ j, ∃ m : List LbT, OwnL wr b (vs.getD j nilV) m
  sub : ∀ j, vs.getD j nilV = nilV ∨ vs.getD j nilV = vs0.getD j nilV
  out : K wr
def setL (W : World) (g j : Nat) (x : LbT) : World := (W.setCell ⟨g, j * 2, none⟩ (.string (ByteArray.mk ⟨x.1⟩))).setCell ⟨g, j * 2 + 1, none⟩ (.string (ByteArray.mk ⟨x.2⟩))
/-- a store into one of its lists does K no harm -/
def Kset (b : Nat) (vs0 : List Value) (K : World → Prop) : Prop := ∀ (wr : World) (g n c j : Nat) (m : List LbT) (x : LbT), K wr → OwnL wr b (.slice (some ⟨g, 0, none⟩) n c) m → (∃ i, (vs0.getD i nilV).ownBlock = some g) → K (setL wr g j x)
/-- a store into its row does K no harm -/
def Kclr (b : Nat) (v : Value) (K : World → Prop) : Prop := ∀ (wr : World) (g z : Nat) (vs : List Value), K wr → OwnVs wr b v vs → v.ownBlock = some g → K (wr.setCell ⟨g, z, none⟩ nilV)
theorem SpK.set {b : Nat} {v : Value} {vs0 vs : List Value} {K : World → Prop} {wr : World} (h : SpK b v vs0 K vs wr) (hK : Kset b vs0 K) {g : Nat} {m : List LbT} {n c i : Nat} (hi : vs.getD i nilV = .slice (some ⟨g, 0, none⟩) n c) (ho : OwnL wr b (.slice (some ⟨g, 0, none⟩) n c) m) (j : Nat) (x : LbT) :
    SpK b v vs0 K vs (setL wr g j x) := by
  obtain ⟨k1, k2⟩ := ho.set j x
  have hgb : b ≤ g := (World.ownsRow.lt ho g rfl).1
  refine ⟨?_, fun i => ?_, h.sub, hK wr g n c j m x h.out ho ⟨i, ?_⟩⟩
  · refine row_via h.row (fun k hk => k2.block k ?_ ?_)
    · exact (World.ownsRow.lt h.row k hk).2
    · intro e
      cases e
      obtain ⟨cur, q1⟩ := row_objE h.row hk
      obtain ⟨cur', q2⟩ := row_objE ho (rfl : (Value.slice (some ⟨g, 0, none⟩) n c).ownBlock = some g)
      rw [q1] at q2
      simp at q2
  · obtain ⟨m', hm'⟩ := h.each i
    obtain ⟨a, c', e⟩ := hm'.shape
    by_cases hb : (vs.getD i nilV).ownBlock = some g
    · have hm2 := hm'
      rcases hm'.2 with ⟨e1, -⟩ | ⟨g', cap, cur, e1, r⟩
      · rw [e1] at hb
        simp [Value.ownBlock] at hb
      · rw [e1] at hb hm2 ⊢
        simp only [Value.ownBlock, Option.some.injEq] at hb
        first | subst hb | (have hb2 : g' = g := by simpa [Value.ownBlock] using hb; subst hb2)
        exact ⟨m'.set j x, (hm2.set j x).1⟩
    · exact ⟨m', row_via hm' (fun k hk => k2.block k (World.ownsRow.lt hm' k hk).2 (fun e => hb (by rw [hk, e])))⟩
  · rcases h.sub i with e | e
    · rw [hi] at e
      simp [nilV] at e
    · rw [← e, hi]
      rfl
theorem SpK.clr {b g N c : Nat} {vs0 vs : List Value} {K : World → Prop} {wr : World} (h : SpK b (.slice (some ⟨g, 0, none⟩) N c) vs0 K vs wr) (hK : Kclr b (.slice (some ⟨g, 0, none⟩) N c) K) (z : Nat) :
    SpK b (.slice (some ⟨g, 0, none⟩) N c) vs0 K (vs.set z nilV) (wr.setCell ⟨g, z, none⟩ nilV) := by
  have hN : N = vs.length := by
    rcases h.row.2 with ⟨h', _⟩ | ⟨_, _, _, h', _⟩
    · simp at h'
    · simp at h'; exact h'.2.1
  subst hN
  have hgb : b ≤ g := (World.ownsRow.lt h.row g rfl).1
  obtain ⟨k1, k2⟩ := World.ownsRow.stored h.row z nilV
  have e3 : ∀ i, (vs.set z nilV).getD i nilV = nilV ∨ (vs.set z nilV).getD i nilV = vs.getD i nilV := fun i => by
    by_cases e : z = i
    · left
      simp only [List.getD, e, List.getElem?_set]
      by_cases hl : i < vs.length <;> simp [hl]
    · right
      simp [List.getD, e]
  refine ⟨?_, fun i => ?_, fun i => ?_, hK wr g z vs h.out h.row rfl⟩
  · unfold OwnVs
    rw [List.length_set]
    exact k1
  · rcases e3 i with e2 | e2
    · rw [e2]
      exact ⟨[], World.ownsRow_nil _ _ _ _⟩
    · obtain ⟨m', hm'⟩ := h.each i
      rw [e2]
      refine ⟨m', row_via hm' (fun k hk => k2.block k (World.ownsRow.lt hm' k hk).2 (fun e => ?_))⟩
      cases e
      obtain ⟨cur, q1⟩ := row_objE hm' hk
      obtain ⟨cur', q2⟩ := row_objE h.row (rfl : (Value.slice (some ⟨g, 0, none⟩) vs.length c).ownBlock = some g)
      rw [q1] at q2
      simp at q2
  · rcases e3 i with e2 | e2
    · exact .inl e2
    · rw [e2]
      exact h.sub i
set_option maxRecDepth 8000 in
set_option maxHeartbeats 3200000 in
theorem spoilK_any (b : Nat) (w : World) (v : Value) (vs0 : List Value) (K : World → Prop) (h : SpK b v vs0 K vs0 w) (hK1 : Kset b vs0 K) (hK2 : Kclr b v K) :
    Calls Tryz.prog 20 #[v] w fun e w' => e = .returned (.tuple #[]) ∧ K w' := by
  have H0 := hidJ h
  have HK := hidJ (And.intro hK1 hK2)
  have h1 := h.row
  obtain ⟨a, c, rfl⟩ := h1.shape
  have hn0 : vs0.length ≤ 9223372036854775807 := by
    rcases h1.2 with ⟨-, h'⟩ | ⟨g, cap, cur, e, -, -, hnc, hcm, -⟩
    · omega
    · unfold maxLen at hcm; omega
  clear h h1 hK1 hK2
  obtain ⟨n, hn⟩ : ∃ n, vs0.length = n := ⟨_, rfl⟩
  have HN := hidJ hn
  rw [hn] at H0 hn0 HK
  rw [hn]
  clear hn
  go_enter Tryz.func20, Tryz.ntmps20
  go_wp2
  go_loopw [6] (fun i wr => ∃ z : Nat, z ≤ n ∧ i = .int .i64 z ∧ Hid (∃ vs, vs.length = n ∧ SpK b (.slice a n c) vs0 K vs wr)) (fun i _ => n - (intOf i).toNat)
  case atStart => exact ⟨0, by omega, rfl, vs0, HN.out, H0.out⟩
  case round =>
    obtain ⟨z, hzN, rfl, hr⟩ := hrel
    clear H0 HN
    obtain ⟨vs, hvn, hr⟩ := hr.out
    have HR := hidJ hr
    have HVN := hidJ hvn
    clear hr hvn
    by_cases hzl : z < n
    · have hzi : (z : Int) < (n : Int) := by omega
      obtain ⟨g, c2, he, hc1, hc2, hbg, d0, d1, hgl⟩ := HR.out.row.cell (j := z) (by have := HVN.out; omega)
      simp only [Value.slice.injEq] at he
      obtain ⟨rfl, -, rfl⟩ := he
      obtain ⟨m, hm⟩ := HR.out.each z
      obtain ⟨ua, uc, eu⟩ := hm.shape
      have HU : Hid (vs.getD z nilV = .slice ua m.length uc) := eu
      have hml : m.length ≤ 9223372036854775807 := by
        rcases hm.2 with ⟨-, h'⟩ | ⟨g, cap, cur, e, -, -, hnc, hcm, -⟩
        · omega
        · unfold maxLen at hcm; omega
      rw [eu] at d0
      clear eu hm
      obtain ⟨ml, hmm⟩ : ∃ ml, m.length = ml := ⟨_, rfl⟩
      rw [hmm] at d0 HU hml
      clear hmm
      have hzc : z < c := by have := HVN.out; omega
      clear hc1 hbg hgl d1
      go_wp2
      go_loopw [14] (fun i wr2 => ∃ k : Nat, k ≤ ml ∧ i = .int .i64 k ∧ Hid (SpK b (.slice (some ⟨g, 0, none⟩) n c) vs0 K vs wr2)) (fun i _ => ml - (intOf i).toNat)
      case atStart => exact ⟨0, by omega, rfl, HR.out⟩
      case round =>
        obtain ⟨k, hkN, rfl, hr⟩ := hrel
        clear HR d0
        obtain ⟨g', c3, he, -, -, -, d0, d1, -⟩ := hr.out.row.cell (j := z) (by have := HVN.out; omega)
        simp only [Value.slice.injEq, Option.some.injEq, Addr.mk.injEq] at he
        obtain ⟨⟨rfl, -, -⟩, -, rfl⟩ := he
        have HU2 := HU.out
        by_cases hkl : k < ml
        · have hki : (k : Int) < (ml : Int) := by omega
          obtain ⟨m2, hm2⟩ := hr.out.each z
          rw [HU2] at d0 hm2
          have hm2l : m2.length = ml := by
            obtain ⟨_, _, e⟩ := hm2.shape
            simp only [Value.slice.injEq] at e
            exact e.2.1.symm
          obtain ⟨b', cap, he, -, -, hcap, hcm, hcell⟩ := hm2.form (by omega)
          rw [hm2l] at he hcap
          simp only [Value.slice.injEq] at he
          obtain ⟨rfl, -, rfl⟩ := he
          obtain ⟨c0, c1⟩ := hcell k (by omega)
          have f0 := hm2.frozen (k * 2)
          have f1 := hm2.frozen (k * 2 + 1)
          have hst : Hid (SpK b (.slice (some ⟨g, 0, none⟩) n c) vs0 K vs ((wr.setCell ⟨b', k * 2, none⟩ (.string (ByteArray.mk ⟨spB⟩))).setCell ⟨b', k * 2 + 1, none⟩ (.string (ByteArray.mk ⟨[]⟩)))) := hr.out.set HK.out.1 HU2 hm2 k (spB, [])
          clear hcell hr hm2 HU2 hm2l
          generalize ByteArray.mk ⟨(m2.getD k ([], [])).1⟩ = o1 at *
          generalize ByteArray.mk ⟨(m2.getD k ([], [])).2⟩ = o2 at *
          go_wp2
          go_roundw
          case rel => exact ⟨k + 1, by omega, by go_num, hst⟩
          case measure => simp [intOf]; omega
        · have hki : ¬ (k : Int) < (ml : Int) := by omega
          rw [HU2] at d0
          have hst : Hid (∃ vs, vs.length = n ∧ SpK b (.slice (some ⟨g, 0, none⟩) n c) vs0 K vs (wr.setCell ⟨g, z, none⟩ (.slice none 0 0))) := ⟨vs.set z nilV, by rw [List.length_set]; exact HVN.out, hr.out.clr HK.out.2 z⟩
          clear hr HU2 HU HVN
          go_wp2
          go_roundw
          case rel => exact ⟨z + 1, by omega, by go_num, hst⟩
          case measure => simp [intOf]; omega
    · have hzi : ¬ (z : Int) < (n : Int) := by omega
      have HF := hidJ HR.out.out
      clear HR HVN HK
      go_wp2
      go_end0
      exact ⟨rfl, HF.out⟩
/-- lists of label sets in blocks from lo to hi -/
def RgL (w : World) (lo hi : Nat) (v : Value) (lss : List (List LbT)) : Prop := ∃ vs, OwnVs w lo v vs ∧ vs.length = lss.length ∧ (∀ j, OwnL w lo (vs.getD j nilV) (lss.getD j [])) ∧ (∀ k, v.ownBlock = some k → k < hi) ∧ ∀ j k, (vs.getD j nilV).ownBlock = some k → k < hi
theorem OwnLL.rg {w : World} {lo : Nat} {v : Value} {lss : List (List LbT)} (h : OwnLL w lo v lss) : RgL w lo w.heap.size v lss := by
  obtain ⟨vs, h1, h2, h3⟩ := h
  exact ⟨vs, h1, h2, h3, fun k hk => (World.ownsRow.lt h1 k hk).2, fun j k hk => (World.ownsRow.lt (h3 j) k hk).2⟩
theorem RgL.ll {w : World} {lo hi : Nat} {v : Value} {lss : List (List LbT)} (h : RgL w lo hi v lss) : OwnLL w lo v lss := by
  obtain ⟨vs, h1, h2, h3, -⟩ := h
  exact ⟨vs, h1, h2, h3⟩
theorem RgL.keep {w w' : World} {lo hi : Nat} {v : Value} {lss : List (List LbT)} (h : RgL w lo hi v lss) (hg : w.grownBy w' none) : RgL w' lo hi v lss := by
  obtain ⟨vs, h1, h2, h3, h4, h5⟩ := h
  exact ⟨vs, h1.keep hg, h2, fun j => (h3 j).keep hg, h4, h5⟩
theorem RgL.chT {w w' : World} {lo hi : Nat} {v : Value} {lss : List (List LbT)} {S : Nat → Prop} (h : RgL w lo hi v lss) (hc : Ch w w' S) (hS : EnL w S) : RgL w' lo hi v lss := by
  obtain ⟨vs, h1, h2, h3, h4, h5⟩ := h
  exact ⟨vs, row_chT h1 hc hS (.inr rfl), h2, fun j => row_chT (h3 j) hc hS (.inl rfl), h4, h5⟩
theorem RgL.out {w w' : World} {lo hi : Nat} {v : Value} {lss : List (List LbT)} {S : Nat → Prop} (h : RgL w lo hi v lss) (hc : Ch w w' S) (hS : ∀ k, lo ≤ k → k < hi → ¬ S k) : RgL w' lo hi v lss := by
  obtain ⟨vs, h1, h2, h3, h4, h5⟩ := h
  exact ⟨vs, row_ch h1 hc (fun k hk => hS k (World.ownsRow.lt h1 k hk).1 (h4 k hk)), h2, fun j => row_ch (h3 j) hc (fun k hk => hS k (World.ownsRow.lt (h3 j) k hk).1 (h5 j k hk)), h4, h5⟩
/-- spoil writes into its own blocks alone -/
theorem spoilR_any (lo hi : Nat) (w : World) (v : Value) (lss : List (List LbT)) (h : RgL w lo hi v lss) :
    Calls Tryz.prog 20 #[v] w fun e w' => e = .returned (.tuple #[]) ∧ Ch w w' (fun k => lo ≤ k ∧ k < hi) := by
  obtain ⟨vs, h1, h2, h3, h4, h5⟩ := h
  refine spoilK_any lo w v vs (fun W => Ch w W (fun k => lo ≤ k ∧ k < hi)) ⟨h1, fun j => ⟨_, h3 j⟩, fun j => .inr rfl, Ch.refl _ _⟩ ?_ ?_
  · intro wr g n c j m x hK ho ⟨i, hi'⟩
    have h6 := h5 i g hi'
    have h7 := (World.ownsRow.lt ho g rfl).1
    unfold setL
    exact (hK.trans (set_ch _ _ _ _) (fun k _ e => by omega)).trans (set_ch _ _ _ _) (fun k _ e => by omega)
  · intro wr g z vs' hK ho hg
    have h6 := h4 g hg
    have h7 := (World.ownsRow.lt ho g hg).1
    exact hK.trans (set_ch _ _ _ _) (fun k _ e => by omega)
/-- rows of label sets of the call's own, whatever they hold -/
def ShW (w : World) (b : Nat) (v : Value) : Prop := ∃ vs, OwnVs w b v vs ∧ ∀ j, ∃ m : List LbT, OwnL w b (vs.getD j nilV) m
theorem OwnLL.sh {w : World} {b : Nat} {v : Value} {lss : List (List LbT)} (h : OwnLL w b v lss) : ShW w b v := by
  obtain ⟨vs, h1, h2, h3⟩ := h
  exact ⟨vs, h1, fun j => ⟨_, h3 j⟩⟩
theorem ShW.keep {w w' : World} {b : Nat} {v : Value} (h : ShW w b v) (hg : w.grownBy w' none) : ShW w' b v := by
  obtain ⟨vs, h1, h2⟩ := h
  exact ⟨vs, h1.keep hg, fun j => by obtain ⟨m, hm⟩ := h2 j; exact ⟨m, hm.keep hg⟩⟩
theorem ShW.set {wr : World} {b : Nat} {v : Value} (h : ShW wr b v) {g n c : Nat} {m : List LbT} (ho : OwnL wr b (.slice (some ⟨g, 0, none⟩) n c) m) (j : Nat) (x : LbT) : ShW (setL wr g j x) b v := by
  obtain ⟨vs, h1, h2⟩ := h
  obtain ⟨k1, k2⟩ := ho.set j x
  refine ⟨vs, ?_, fun i => ?_⟩
  · refine row_via h1 (fun k hk => k2.block k ?_ ?_)
    · exact (World.ownsRow.lt h1 k hk).2
    · intro e
      cases e
      obtain ⟨cur, q1⟩ := row_objE h1 hk
      obtain ⟨cur', q2⟩ := row_objE ho (rfl : (Value.slice (some ⟨g, 0, none⟩) n c).ownBlock = some g)
      rw [q1] at q2
      simp at q2
  · obtain ⟨m', hm'⟩ := h2 i
    by_cases hb : (vs.getD i nilV).ownBlock = some g
    · have hm2 := hm'
      rcases hm'.2 with ⟨e1, -⟩ | ⟨g', cap, cur, e1, r⟩
      · rw [e1] at hb
        simp [Value.ownBlock] at hb
      · rw [e1] at hb hm2 ⊢
        simp only [Value.ownBlock, Option.some.injEq] at hb
        first | subst hb | (have hb2 : g' = g := by simpa [Value.ownBlock] using hb; subst hb2)
        exact ⟨m'.set j x, (hm2.set j x).1⟩
    · exact ⟨m', row_via hm' (fun k hk => k2.block k (World.ownsRow.lt hm' k hk).2 (fun e => hb (by rw [hk, e])))⟩
theorem ShW.clr {wr : World} {b : Nat} {v v2 : Value} (h : ShW wr b v) {g z : Nat} {vs2 : List Value} (h2 : OwnVs wr b v2 vs2) (hg : v2.ownBlock = some g) : ShW (wr.setCell ⟨g, z, none⟩ nilV) b v := by
  obtain ⟨vs, h1, h3⟩ := h
  have hc := set_ch wr g z nilV
  have hlab : ∀ (u : Value) (m : List LbT), OwnL wr b u m → OwnL (wr.setCell ⟨g, z, none⟩ nilV) b u m := fun u m hm => row_ch hm hc (fun k hk e => by
    obtain ⟨cur, q1⟩ := row_objE hm hk
    obtain ⟨cur', q2⟩ := row_objE h2 hg
    rw [show k = g from e] at q1
    rw [q1] at q2
    simp at q2)
  by_cases hb : v.ownBlock = some g
  · rcases h1.2 with ⟨e1, -⟩ | ⟨g', cap, cur, e1, r⟩
    · rw [e1] at hb
      simp [Value.ownBlock] at hb
    · subst e1
      have hb2 : g' = g := by simpa [Value.ownBlock] using hb
      subst hb2
      obtain ⟨k1, k2⟩ := World.ownsRow.stored h1 z nilV
      refine ⟨vs.set z nilV, ?_, fun i => ?_⟩
      · unfold OwnVs
        rw [List.length_set]
        exact k1
      · by_cases e : z = i
        · refine ⟨[], ?_⟩
          have e2 : (vs.set z nilV).getD i nilV = nilV := by
            simp only [List.getD, e, List.getElem?_set]
            by_cases hl : i < vs.length <;> simp [hl]
          rw [e2]
          exact World.ownsRow_nil _ _ _ _
        · obtain ⟨m', hm'⟩ := h3 i
          have e2 : (vs.set z nilV).getD i nilV = vs.getD i nilV := by simp [List.getD, e]
          rw [e2]
          exact ⟨m', hlab _ _ hm'⟩
  · exact ⟨vs, row_ch h1 hc (fun k hk e => hb (by rw [hk, show k = g from e])), fun i => by obtain ⟨m', hm'⟩ := h3 i; exact ⟨m', hlab _ _ hm'⟩⟩
/-- spoil, many rows beside it: all of them stay rows, and what is older stays as it was -/
theorem spoilH_any (w0 w : World) (v : Value) (L : Value → Prop) (h0 : w0.grownBy w none) (hv : ShW w w0.heap.size v) (hL : ∀ u, L u → ShW w w0.heap.size u) :
    Calls Tryz.prog 20 #[v] w fun e w' => e = .returned (.tuple #[]) ∧ w0.grownBy w' none ∧ (∀ u, L u → ShW w' w0.heap.size u) ∧ Ch w w' (fun k => w0.heap.size ≤ k) := by
  obtain ⟨vs, h1, h2⟩ := hv
  refine spoilK_any w0.heap.size w v vs (fun W => w0.grownBy W none ∧ (∀ u, L u → ShW W w0.heap.size u) ∧ Ch w W (fun k => w0.heap.size ≤ k)) ⟨h1, h2, fun j => .inr rfl, h0, hL, Ch.refl _ _⟩ ?_ ?_
  · intro wr g n c j m x hK ho _
    have h7 := (World.ownsRow.lt ho g rfl).1
    refine ⟨?_, fun u hu => (hK.2.1 u hu).set ho j x, ?_⟩
    · unfold setL
      exact gb_ch (gb_ch hK.1 (set_ch _ _ _ _) (fun k e => by omega)) (set_ch _ _ _ _) (fun k e => by omega)
    · unfold setL
      exact (hK.2.2.trans (set_ch _ _ _ _) (fun k _ e => by omega)).trans (set_ch _ _ _ _) (fun k _ e => by omega)
  · intro wr g z vs' hK ho hg
    have h7 := (World.ownsRow.lt ho g hg).1
    exact ⟨gb_ch hK.1 (set_ch _ _ _ _) (fun k e => by omega), fun u hu => (hK.2.1 u hu).clr ho hg, hK.2.2.trans (set_ch _ _ _ _) (fun k _ e => by omega)⟩
end Go.Proofs.YtpglhdnepmcahaaGreatDoor

/- Nko -/
namespace Go.Proofs.YtpglhdnepmcahaaGreatDoor
open Go.RowKit Go.Shelf Go.Sort

/-- the same marks -/
def SamM (a b : List MkX) : Prop := a.map (·.1) = b.map (·.1)
theorem SamM.len {a b : List MkX} (h : SamM a b) : a.length = b.length := by simpa using congrArg List.length h
theorem SamM.at {a b : List MkX} (h : SamM a b) (j : Nat) : (a.getD j xZ).1 = (b.getD j xZ).1 := by
  have e : ∀ l : List MkX, (l.getD j xZ).1 = (l.map (·.1)).getD j xZ.1 := fun l => by
    simp only [List.getD, List.getElem?_map]
    cases l[j]? <;> rfl
  rw [e, e]
  exact congrArg (fun l : List MkR => l.getD j xZ.1) h
theorem keyX_one (x y : MkX) (h : x.1 = y.1) : keyX x = keyX y := by
  unfold keyX
  rw [h]
theorem SamM.has {a b : List MkX} (h : SamM a b) (k : LbT) : hasM a k = hasM b k := by
  have e : ∀ l : List MkX, hasM l k = (l.map (·.1)).any fun m => decide ((m.rcv, m.key) = k) := fun l => by
    unfold hasM
    rw [List.any_map]
    rfl
  rw [e, e, show a.map (·.1) = b.map (·.1) from h]
theorem SamM.get {a b : List MkX} (h : SamM a b) (k : LbT) : (getM a k).1 = (getM b k).1 := by
  have e : ∀ l : List MkX, (getM l k).1 = ((l.map (·.1)).find? fun m => decide ((m.rcv, m.key) = k)).getD xZ.1 := fun l => by
    unfold getM
    rw [List.find?_map]
    have : (l.find? fun x => decide (keyX x = k)) = l.find? ((fun m : MkR => decide ((m.rcv, m.key) = k)) ∘ fun x => x.1) := rfl
    rw [this]
    cases l.find? ((fun m : MkR => decide ((m.rcv, m.key) = k)) ∘ fun x => x.1) <;> rfl
  rw [e, e, show a.map (·.1) = b.map (·.1) from h]
theorem SamM.putR {a b : List MkX} (h : SamM a b) (m : MkR) : putR a m = putR b m := by
  unfold Go.Proofs.YtpglhdnepmcahaaGreatDoor.putR oldM fullM
  rw [h.has, h.get, h.len]
theorem SamM.swp {a b : List MkX} (h : SamM a b) (d : Int) : SamM (swpM a d) (swpM b d) := by
  have e : ∀ l : List MkX, (swpM l d).map (·.1) = (l.map (·.1)).filter fun m => decide (d < m.tim) := fun l => by
    unfold swpM
    rw [List.filter_map]
    rfl
  unfold SamM
  rw [e, e, show a.map (·.1) = b.map (·.1) from h]
theorem AtE.sam {a b : List MkX} (h : SamM a b) {k : LbT} {p : Nat} (hp : AtE a k p) : AtE b k p := by
  have hl := h.len
  refine ⟨by rw [← hl]; exact hp.1, fun j hj => ?_, fun j h1 h2 => ?_⟩
  · rw [← keyX_one _ _ (h.at j)]
    exact hp.2.1 j hj
  · rw [← keyX_one _ _ (h.at j)]
    exact hp.2.2 j h1 (by omega)
theorem AtE.uniq {l : List MkX} {k : LbT} {p q : Nat} (hp : AtE l k p) (hq : AtE l k q) : p = q := by
  rcases Nat.lt_trichotomy p q with h | h | h
  · have h1 := hq.2.1 p h
    have h2 := hp.2.2 p (Nat.le_refl _) (Nat.lt_of_lt_of_le h hq.1)
    omega
  · exact h
  · have h1 := hp.2.1 q h
    have h2 := hq.2.2 q (Nat.le_refl _) (Nat.lt_of_lt_of_le h hp.1)
    omega
theorem SamM.put {a b : List MkX} (h : SamM a b) {x y : MkX} (hxy : x.1 = y.1) {p q : Nat} (hp : AtE a (keyX x) p) (hq : AtE b (keyX y) q) : SamM (putM a x p) (putM b y q) := by
  have hk := keyX_one x y hxy
  have e : p = q := by
    rw [← hk] at hq
    exact AtE.uniq (hp.sam h) hq
  subst e
  unfold SamM putM
  rw [h.has, hk]
  split
  · rw [List.map_set, List.map_set, show a.map (·.1) = b.map (·.1) from h, hxy]
  · rw [List.map_append, List.map_append, List.map_append, List.map_append, List.map_take, List.map_take, List.map_drop, List.map_drop, show a.map (·.1) = b.map (·.1) from h]
    simp [hxy]
/-- both logs side by side, behind w -/
structure PlD (w W : World) (gx gr : Nat) (v1 v2 : Value) (l1 l2 : List MkX) : Prop where
  gb : w.grownBy W none
  a : LgX W gx v1 l1
  b : RefX W gr v2 l2
  fa : ∀ k, FpL gx v1 k → w.heap.size ≤ k
  fb : ∀ k, FpL gr v2 k → w.heap.size ≤ k
  ap : ∀ k, FpL gx v1 k → ¬ FpL gr v2 k
theorem PlD.keep {w W W' : World} {gx gr : Nat} {v1 v2 : Value} {l1 l2 : List MkX} (h : PlD w W gx gr v1 v2 l1 l2) (hg : W.grownBy W' none) : PlD w W' gx gr v1 v2 l1 l2 := ⟨gb_none h.gb hg, h.a.keep hg, h.b.keep hg, h.fa, h.fb, h.ap⟩
theorem PlD.putA {w W W' : World} {gx gr : Nat} {v1 v1' v2 : Value} {l1 l1' l2 : List MkX} (h : PlD w W gx gr v1 v2 l1 l2) (hl : LgX W' gx v1' l1') (hf : LFr gx W W' v1 v1') : PlD w W' gx gr v1' v2 l1' l2 := by
  have hfp : ∀ k, FpL gx v1' k → FpL gx v1 k ∨ W.heap.size ≤ k := fun k hk => by
    rcases hk with rfl | hk
    · exact .inl (.inl rfl)
    · rcases hf.2 k hk with h1 | h1
      · exact .inl (.inr h1)
      · exact .inr h1
  refine ⟨gb_ch h.gb hf.1 h.fa, hl, h.b.ch hf.1 (fun k h1 h2 => h.ap k h2 h1) h.a.enl, fun k hk => ?_, h.fb, fun k h1 h2 => ?_⟩
  · rcases hfp k hk with h1 | h1
    · exact h.fa k h1
    · exact Nat.le_trans h.gb.size h1
  · rcases hfp k h1 with h3 | h3
    · exact h.ap k h3 h2
    · have := h.b.lt k h2
      omega
theorem PlD.putB {w W W' : World} {gx gr : Nat} {v1 v2 v2' : Value} {l1 l2 l2' : List MkX} (h : PlD w W gx gr v1 v2 l1 l2) (hl : RefX W' gr v2' l2') (hf : LFr gr W W' v2 v2') : PlD w W' gx gr v1 v2' l1 l2' := by
  have hfp : ∀ k, FpL gr v2' k → FpL gr v2 k ∨ W.heap.size ≤ k := fun k hk => by
    rcases hk with rfl | hk
    · exact .inl (.inl rfl)
    · rcases hf.2 k hk with h1 | h1
      · exact .inl (.inr h1)
      · exact .inr h1
  refine ⟨gb_ch h.gb hf.1 h.fb, h.a.ch hf.1 (fun k h1 h2 => h.ap k h1 h2) h.b.enl, hl, h.fa, fun k hk => ?_, fun k h1 h2 => ?_⟩
  · rcases hfp k hk with h1 | h1
    · exact h.fb k h1
    · exact Nat.le_trans h.gb.size h1
  · rcases hfp k h2 with h3 | h3
    · exact h.ap k h1 h3
    · have := h.a.lt k h1
      omega
/-- a log's own lists lie apart from lo .. hi -/
def AwM (W : World) (lo hi : Nat) (x : MkX) : Prop := ∃ l1 h1 l2 h2, RgL W l1 h1 x.2.1 x.1.fir ∧ RgL W l2 h2 x.2.2 x.1.res ∧ (h1 ≤ lo ∨ hi ≤ l1) ∧ (h2 ≤ lo ∨ hi ≤ l2)
theorem AwM.keep {W W' : World} {lo hi : Nat} {x : MkX} (h : AwM W lo hi x) (hg : W.grownBy W' none) : AwM W' lo hi x := by
  obtain ⟨l1, h1, l2, h2, p1, p2, p3, p4⟩ := h
  exact ⟨l1, h1, l2, h2, p1.keep hg, p2.keep hg, p3, p4⟩
theorem AwM.chT {W W' : World} {lo hi : Nat} {x : MkX} {S : Nat → Prop} (h : AwM W lo hi x) (hc : Ch W W' S) (hS : EnL W S) : AwM W' lo hi x := by
  obtain ⟨l1, h1, l2, h2, p1, p2, p3, p4⟩ := h
  exact ⟨l1, h1, l2, h2, p1.chT hc hS, p2.chT hc hS, p3, p4⟩
theorem AwM.out {W W' : World} {lo hi : Nat} {x : MkX} {S : Nat → Prop} (h : AwM W lo hi x) (hc : Ch W W' S) (hS : ∀ k, S k → lo ≤ k ∧ k < hi) : AwM W' lo hi x := by
  obtain ⟨l1, h1, l2, h2, p1, p2, p3, p4⟩ := h
  refine ⟨l1, h1, l2, h2, p1.out hc (fun k q1 q2 e => ?_), p2.out hc (fun k q1 q2 e => ?_), p3, p4⟩
  · have := hS k e
    omega
  · have := hS k e
    omega
theorem MkO.aw {W : World} {x : MkX} (h : MkO W x) (hi : Nat) : AwM W W.heap.size hi x := ⟨0, _, 0, _, h.fir.rg, h.res.rg, .inl (Nat.le_refl _), .inl (Nat.le_refl _)⟩
theorem NewL.aw {W : World} {b lo hi : Nat} {m : MkR} {f s : Value} (h : NewL W b m f s) (hb : hi ≤ b) : AwM W lo hi (m, f, s) := ⟨b, _, b, _, h.1.rg, h.2.rg, .inr hb, .inr hb⟩
/-- both logs, apart from lo .. hi -/
structure PlA (w W : World) (gx gr : Nat) (v1 v2 : Value) (l1 l2 : List MkX) (lo hi : Nat) : Prop where
  d : PlD w W gx gr v1 v2 l1 l2
  lw : w.heap.size ≤ lo
  ba : ∀ k, FpL gx v1 k → ¬ (lo ≤ k ∧ k < hi)
  bb : ∀ k, FpL gr v2 k → ¬ (lo ≤ k ∧ k < hi)
  ea : ∀ x ∈ l1, AwM W lo hi x
  eb : ∀ x ∈ l2, AwM W lo hi x
theorem PlA.keep {w W W' : World} {gx gr lo hi : Nat} {v1 v2 : Value} {l1 l2 : List MkX} (h : PlA w W gx gr v1 v2 l1 l2 lo hi) (hg : W.grownBy W' none) : PlA w W' gx gr v1 v2 l1 l2 lo hi :=
  ⟨h.d.keep hg, h.lw, h.ba, h.bb, fun x hx => (h.ea x hx).keep hg, fun x hx => (h.eb x hx).keep hg⟩
/-- what is written between lo and hi is none of theirs -/
theorem PlA.out {w W W' : World} {gx gr lo hi : Nat} {v1 v2 : Value} {l1 l2 : List MkX} (h : PlA w W gx gr v1 v2 l1 l2 lo hi) {S : Nat → Prop} (hc : Ch W W' S) (hS : ∀ k, S k → lo ≤ k ∧ k < hi) : PlA w W' gx gr v1 v2 l1 l2 lo hi := by
  have mo : ∀ x, MkO W x → AwM W lo hi x → MkO W' x := fun x h1 h2 => by
    obtain ⟨a1, b1, a2, b2, p1, p2, p3, p4⟩ := h2.out hc hS
    exact ⟨p1.ll.mono (Nat.zero_le _), p2.ll.mono (Nat.zero_le _), h1.inF, h1.inR, h1.inr, h1.ink⟩
  have d := h.d
  refine ⟨⟨gb_ch d.gb hc (fun k e => Nat.le_trans h.lw (hS k e).1), ?_, ?_, d.fa, d.fb, d.ap⟩, h.lw, h.ba, h.bb, fun x hx => (h.ea x hx).out hc hS, fun x hx => (h.eb x hx).out hc hS⟩
  · exact ⟨bxch d.a.box hc (fun e => h.ba _ (.inl rfl) (hS _ e)), row_ch d.a.row hc (fun k hk e => h.ba k (.inr hk) (hS k e)), d.a.ris, fun x hx => ⟨mo x (d.a.each x hx).1 (h.ea x hx), (d.a.each x hx).2⟩, d.a.len⟩
  · exact ⟨bxch d.b.box hc (fun e => h.bb _ (.inl rfl) (hS _ e)), row_ch d.b.row hc (fun k hk e => h.bb k (.inr hk) (hS k e)), d.b.ris, fun x hx => ⟨mo x (d.b.each x hx).1 (h.eb x hx), (d.b.each x hx).2⟩, d.b.len⟩
/-- the two logs lie apart from all that is made behind them -/
theorem PlD.apart {w W : World} {gx gr : Nat} {v1 v2 : Value} {l1 l2 : List MkX} (h : PlD w W gx gr v1 v2 l1 l2) (hi : Nat) : PlA w W gx gr v1 v2 l1 l2 W.heap.size hi :=
  ⟨h, h.gb.size, fun k hk e => by have := h.a.lt k hk; omega, fun k hk e => by have := h.b.lt k hk; omega, fun x hx => (h.a.each x hx).1.aw hi, fun x hx => (h.b.each x hx).1.aw hi⟩
theorem PlA.putA {w W W' : World} {gx gr lo hi p : Nat} {v1 v1' v2 : Value} {l1 l2 : List MkX} {m : MkR} {f s : Value} (h : PlA w W gx gr v1 v2 l1 l2 lo hi) (hw : hi ≤ W.heap.size) (hl : LgX W' gx v1' (putM l1 (m, f, s) p)) (hf : LFr gx W W' v1 v1') (hn : NewL W' W.heap.size m f s) : PlA w W' gx gr v1' v2 (putM l1 (m, f, s) p) l2 lo hi := by
  refine ⟨h.d.putA hl hf, h.lw, fun k hk e => ?_, h.bb, fun x hx => ?_, fun x hx => (h.eb x hx).chT hf.1 h.d.a.enl⟩
  · rcases hk with rfl | hk
    · exact h.ba _ (.inl rfl) e
    · rcases hf.2 k hk with q | q
      · exact h.ba k (.inr q) e
      · omega
  · rcases putM_mem hx with q | rfl
    · exact (h.ea x q).chT hf.1 h.d.a.enl
    · exact hn.aw hw
theorem PlA.putB {w W W' : World} {gx gr lo hi p : Nat} {v1 v2 v2' : Value} {l1 l2 : List MkX} {m : MkR} {f s : Value} (h : PlA w W gx gr v1 v2 l1 l2 lo hi) (hw : hi ≤ W.heap.size) (hl : RefX W' gr v2' (putM l2 (m, f, s) p)) (hf : LFr gr W W' v2 v2') (hn : NewL W' W.heap.size m f s) : PlA w W' gx gr v1 v2' l1 (putM l2 (m, f, s) p) lo hi := by
  refine ⟨h.d.putB hl hf, h.lw, h.ba, fun k hk e => ?_, fun x hx => (h.ea x hx).chT hf.1 h.d.b.enl, fun x hx => ?_⟩
  · rcases hk with rfl | hk
    · exact h.bb _ (.inl rfl) e
    · rcases hf.2 k hk with q | q
      · exact h.bb k (.inr q) e
      · omega
  · rcases putM_mem hx with q | rfl
    · exact (h.eb x q).chT hf.1 h.d.b.enl
    · exact hn.aw hw
end Go.Proofs.YtpglhdnepmcahaaGreatDoor

/- Nkp -/
namespace Go.Proofs.YtpglhdnepmcahaaGreatDoor
open Go.RowKit Go.Shelf Go.Sort

set_option maxRecDepth 8000 in
set_option maxHeartbeats 6400000 in
theorem markR_any (w : World) (m : MkR) (f s : Value) (hf : RdLL w f m.fir) (hs : RdLL w s m.res) (lf : LLs m.fir) (ls : LLs m.res) :
    Calls Tryz.prog 17 #[markV m f s] w fun e w' => ∃ f' s', e = .returned (markV m f' s') ∧ (∃ mid, w.heap.size ≤ mid ∧ mid ≤ w'.heap.size ∧ RgL w' w.heap.size mid f' m.fir ∧ RgL w' mid w'.heap.size s' m.res) ∧ w.grownBy w' none := by
  obtain ⟨br, hbr⟩ : ∃ br, br = ByteArray.mk ⟨m.rcv⟩ := ⟨_, rfl⟩
  obtain ⟨bk, hbk⟩ : ∃ bk, bk = ByteArray.mk ⟨m.key⟩ := ⟨_, rfl⟩
  obtain ⟨tm, htm⟩ : ∃ tm, tm = m.tim := ⟨_, rfl⟩
  have HM : Hid (∀ f s, markV m f s = .agg #[.string br, .string bk, .int .i64 tm, f, s]) := fun f s => by rw [hbr, hbk, htm]; rfl
  rw [HM.out f s]
  clear hbr hbk htm
  obtain ⟨fa, fc, e1, -⟩ := hf.shape
  obtain ⟨sa, sc, e2, -⟩ := hs.shape
  subst e1 e2
  have HV := hidJ (And.intro hf (And.intro hs (And.intro lf ls)))
  clear hf hs lf ls
  generalize m.fir.length = nf at *
  generalize m.res.length = ns at *
  have HC : Hid (Calls Tryz.prog 51 #[.slice fa nf fc] ((w.alloc (.cells #[.string br, .string bk, .int .i64 tm, .slice fa nf fc, .slice sa ns sc] 34)).alloc (.cells #[.string ⟨#[]⟩, .string ⟨#[]⟩, .int .i64 0, .slice none 0 0, .slice none 0 0] 34)) fun e w' => ∃ a' n' c', e = .returned (.slice a' n' c') ∧ Hid (RgL w' (w.heap.size + 2) w'.heap.size (.slice a' n' c') m.fir ∧ w.grownBy w' none ∧ w.heap.size + 2 ≤ w'.heap.size ∧ B5 w' w.heap.size 34 (.string br) (.string bk) (.int .i64 tm) (.slice fa nf fc) (.slice sa ns sc) ∧ B5 w' (w.heap.size + 1) 34 (.string ⟨#[]⟩) (.string ⟨#[]⟩) (.int .i64 0) (.slice none 0 0) (.slice none 0 0))) := by
    have k1 := World.grownBy_alloc w (.cells #[.string br, .string bk, .int .i64 tm, .slice fa nf fc, .slice sa ns sc] 34) none
    have k2 := World.grownBy_alloc (w.alloc (.cells #[.string br, .string bk, .int .i64 tm, .slice fa nf fc, .slice sa ns sc] 34)) (.cells #[.string ⟨#[]⟩, .string ⟨#[]⟩, .int .i64 0, .slice none 0 0, .slice none 0 0] 34) none
    refine (lentS_any _ _ m.fir (HV.out.1.keep (gb_none k1 k2)) HV.out.2.2.1).mono ?_
    rintro e w' ⟨v', rfl, q1, q2⟩
    obtain ⟨a', c', e'⟩ := q1.shape
    subst e'
    have x0 := ((B5.new w 34 (.string br) (.string bk) (.int .i64 tm) (.slice fa nf fc) (.slice sa ns sc)).keep k2).keep q2
    have x1 := (B5.new (w.alloc (.cells #[.string br, .string bk, .int .i64 tm, .slice fa nf fc, .slice sa ns sc] 34)) 34 (.string ⟨#[]⟩) (.string ⟨#[]⟩) (.int .i64 0) (.slice none 0 0) (.slice none 0 0)).keep q2
    have z2 := q2.size
    rw [World.size_alloc] at x1
    rw [World.size_alloc, World.size_alloc] at q1 z2
    exact ⟨a', _, c', rfl, q1.rg, gb_none (gb_none k1 k2) q2, z2, x0, x1⟩
  go_enter Tryz.func17, Tryz.ntmps17
  go_wp2_with fail
  refine HC.out.mono ?_
  rintro e w1 ⟨a1, n1, c1, rfl, H1⟩
  clear HC
  have hB := H1.out.2.2.2.1
  obtain ⟨-, -, -, b3, b4⟩ := hB.cells
  obtain ⟨-, -, -, f3, -⟩ := hB.froz
  have hch := set_ch w1 w.heap.size 3 (.slice a1 n1 c1)
  have hB2 := hB.set3 (.slice a1 n1 c1)
  have hD2 := H1.out.2.2.2.2.ch hch (by omega)
  have gw := gb_ch H1.out.2.1 hch (fun k e => by omega)
  have hO2 := H1.out.1.out hch (fun k h1 h2 e => by omega)
  obtain ⟨mid, hmid⟩ : ∃ mid, w1.heap.size = mid := ⟨_, rfl⟩
  have hzm : (w1.setCell ⟨w.heap.size, 3, none⟩ (.slice a1 n1 c1)).heap.size = mid := by rw [← hmid]; simp
  rw [hmid] at hO2
  have hz2 : w.heap.size + 2 ≤ (w1.setCell ⟨w.heap.size, 3, none⟩ (.slice a1 n1 c1)).heap.size := by have := H1.out.2.2.1; simpa using this
  have HC : Hid (Calls Tryz.prog 51 #[.slice sa ns sc] (w1.setCell ⟨w.heap.size, 3, none⟩ (.slice a1 n1 c1)) fun e w' => ∃ a' n' c', e = .returned (.slice a' n' c') ∧ Hid (RgL w' mid w'.heap.size (.slice a' n' c') m.res ∧ RgL w' (w.heap.size + 2) mid (.slice a1 n1 c1) m.fir ∧ w.heap.size + 2 ≤ mid ∧ mid ≤ w'.heap.size ∧ w.grownBy w' none ∧ B5 w' w.heap.size 34 (.string br) (.string bk) (.int .i64 tm) (.slice a1 n1 c1) (.slice sa ns sc) ∧ B5 w' (w.heap.size + 1) 34 (.string ⟨#[]⟩) (.string ⟨#[]⟩) (.int .i64 0) (.slice none 0 0) (.slice none 0 0))) := by
    refine (lentS_any _ _ m.res (HV.out.2.1.keep gw) HV.out.2.2.2).mono ?_
    rintro e w' ⟨v', rfl, q1, q2⟩
    obtain ⟨a', c', e'⟩ := q1.shape
    subst e'
    rw [hzm] at q1 hz2
    have hqz := q2.size
    rw [hzm] at hqz
    exact ⟨a', _, c', rfl, q1.rg, hO2.keep q2, hz2, hqz, gb_none gw q2, hB2.keep q2, hD2.keep q2⟩
  clear hB hch hB2 hD2 gw hO2 hz2 hzm hmid
  go_wp2_with fail
  refine HC.out.mono ?_
  rintro e w2 ⟨a2, n2, c2, rfl, H2⟩
  clear HC b3 b4 f3
  obtain ⟨d0, d1, d2, d3, d4⟩ := H2.out.2.2.2.2.2.1.cells
  obtain ⟨f0, f1, f2, f3, f4⟩ := H2.out.2.2.2.2.2.1.froz
  obtain ⟨i0, i1, i2, i3, i4⟩ := H2.out.2.2.2.2.2.2.cells
  obtain ⟨j0, j1, j2, j3, j4⟩ := H2.out.2.2.2.2.2.2.froz
  go_wp2
  have HB : Hid (B5 (w2.setCell ⟨w.heap.size, 4, none⟩ (.slice a2 n2 c2)) (w.heap.size + 1) 34 (.string ⟨#[]⟩) (.string ⟨#[]⟩) (.int .i64 0) (.slice none 0 0) (.slice none 0 0)) := H2.out.2.2.2.2.2.2.ch (set_ch _ _ _ _) (by have := H2.out.2.2.1; omega)
  refine bodyPost_ret (results_cell_row rfl _ _ (w.heap.size + 1) _ _ _ _ rfl (set5_at HB.out) Tryz.underlying34 rfl (by kernel_rfl)) rfl ?_
  have k1 := set_ch w2 w.heap.size 4 (.slice a2 n2 c2)
  have k2 := set5_ch (w2.setCell ⟨w.heap.size, 4, none⟩ (.slice a2 n2 c2)) (w.heap.size + 1) (.string br) (.string bk) (.int .i64 tm) (.slice a1 n1 c1) (.slice a2 n2 c2)
  have hzz : (set5 (w2.setCell ⟨w.heap.size, 4, none⟩ (.slice a2 n2 c2)) (w.heap.size + 1) (.string br) (.string bk) (.int .i64 tm) (.slice a1 n1 c1) (.slice a2 n2 c2)).heap.size = w2.heap.size := by unfold set5; simp
  have hm1 := H2.out.2.2.1
  have hm2 := H2.out.2.2.2.1
  have e1 := (H2.out.2.1.out k1 (fun k p q e => by omega)).out k2 (fun k p q e => by omega)
  have e2 := (H2.out.1.out k1 (fun k p q e => by omega)).out k2 (fun k p q e => by omega)
  refine ⟨.slice a1 n1 c1, .slice a2 n2 c2, by rw [HM.out], ⟨mid, by omega, ?_, ?_, ?_⟩, gb_ch (gb_ch H2.out.2.2.2.2.1 k1 (fun k e => by omega)) k2 (fun k e => by omega)⟩
  · exact Nat.le_trans hm2 (Nat.le_of_eq hzz.symm)
  · obtain ⟨vs, q1, q2, q3, q4, q5⟩ := e1
    exact ⟨vs, OwnVs.mono q1 (by omega), q2, fun j => (q3 j).mono (by omega), q4, q5⟩
  · have q : ∀ z, z = w2.heap.size → RgL (set5 (w2.setCell ⟨w.heap.size, 4, none⟩ (.slice a2 n2 c2)) (w.heap.size + 1) (.string br) (.string bk) (.int .i64 tm) (.slice a1 n1 c1) (.slice a2 n2 c2)) mid z (.slice a2 n2 c2) m.res := fun z hz => by subst hz; exact e2
    exact q _ hzz
end Go.Proofs.YtpglhdnepmcahaaGreatDoor
