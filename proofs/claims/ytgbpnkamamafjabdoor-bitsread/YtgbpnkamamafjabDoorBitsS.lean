/-
  The document's Int over streams; its calls on a stream that is new: the walks.
-/
import Derived.Test.YtgbpnkamamafjabDoorBitsN2
namespace Go.Proofs.YtgbpnkamamafjabDoor
open Go.RowKit

/-- bools behind bools, run -/
theorem run_appBs (w : World) (ty : TypeId) (v : Value) (l : List Bool) (hown : OwnB w v l) (x : Value) (m : List Bool) (hx : OwnB w x m) (hsz : l.length + m.length ≤ 175921860444160) :
    ∃ v' w', (Builtin.append_ #[26, 26] ty #[v, x]).run Tryd.prog w = .ok v' w' ∧ OwnB w' v' (l ++ m) ∧ Fr w w' v v' := by
  obtain ⟨i0, hi, hz0, hz1, hz2⟩ := info_parts infoL
  rcases hx.2 with ⟨rfl, hn⟩ | ⟨gx, capx, curx, rfl, hbx, hhx, hncx, hcmx, hcsx, htx⟩
  · have hm0 : m = [] := List.eq_nil_of_length_eq_zero hn
    subst hm0
    exact ⟨v, w, run_append_owned_none w 0 26 ty 4 i0 1 Tryd.underlying26 hi v l.length _ hown, by simpa using hown, Fr.refl _ _⟩
  · have hlen : (m.map Value.bool).length = m.length * 1 := by simp
    have hnews : ∀ j u, (m.map Value.bool)[j]? = some u → w.cell? ((⟨gx, 0, none⟩ : Addr).add j) = some u := World.ownsRow.cells hx rfl
    have hone : ∀ u ∈ m.map Value.bool, u.oneCell' = true := by
      intro u hu
      obtain ⟨b, _, rfl⟩ := List.mem_map.1 hu
      rfl
    obtain ⟨v', w', hr, ho, hg, _⟩ := run_append_own_wide (P := Tryd.prog) w 0 26 ty 4 i0 (.bool false) 1 1 Tryd.underlying26 hi hz0 hz1 hz2 rfl (by decide) v l.length (l.map Value.bool) hown
      ⟨gx, 0, none⟩ m.length capx (m.map Value.bool) hlen hnews hone (by unfold maxLen; omega) (by omega) (Nat.zero_le _)
    refine ⟨v', w', hr, ?_, hg, ?_⟩
    · have : OwnB w' v' (l ++ m) = w'.ownsRow 0 4 1 v' (l.length + m.length) (l.map Value.bool ++ m.map Value.bool) := by simp [OwnB]
      rw [this]
      exact ho
    · intro k hk
      rcases hown.2 with ⟨rfl, hn⟩ | ⟨g, cap, cur, rfl, hbg, hh, hnc, hcm', hcs, htake⟩
      · by_cases hm0 : m.length = 0
        · have hm1 : m = [] := List.eq_nil_of_length_eq_zero hm0
          subst hm1
          rename_i hiff
          have := hiff.2 ⟨rfl, rfl⟩
          subst this
          simp [Value.ownBlock] at hk
        · have hn' := run_append_nil (P := Tryd.prog) w 26 ty 4 i0 (.bool false) Tryd.underlying26 hi hz0 ⟨gx, 0, none⟩ m.length capx (m.map Value.bool) (by rw [hz1]; exact hlen) hnews (by omega) (by omega) (by rw [hz2]; omega)
          rw [hr] at hn'
          injection hn' with e1 e2
          subst e1
          simp [Value.ownBlock] at hk
          exact .inr (by omega)
      · by_cases hroom : l.length + m.length ≤ cap
        · have hn' := run_append_room (P := Tryd.prog) w 26 ty 4 i0 Tryd.underlying26 hi g l.length cap cur hh ⟨gx, 0, none⟩ m.length capx (m.map Value.bool) (by rw [hz1]; exact hlen) hnews hone hroom (by rw [hz1, hlen, hcs]; omega)
          rw [hr] at hn'
          injection hn' with e1 e2
          subst e1
          exact .inl (by simpa [Value.ownBlock] using hk.symm)
        · have hn' := run_append_grow (P := Tryd.prog) w 26 ty 4 i0 (.bool false) Tryd.underlying26 hi hz0 ⟨g, 0, none⟩ l.length cap (l.map Value.bool) (by rw [hz1]; simp) (World.ownsRow.cells hown rfl) ⟨gx, 0, none⟩ m.length capx (m.map Value.bool) (by rw [hz1]; exact hlen) hnews (by omega) (by omega) (by rw [hz2]; exact growslice_fits_wide (by omega) (by omega))
          rw [hr] at hn'
          injection hn' with e1 e2
          subst e1
          simp [Value.ownBlock] at hk
          exact .inr (by omega)
theorem wp_appBs {w : World} {ops : Array Oper} {rest : List Oper} {o : Oper} {a : Act} {Q : Exit → Act → World → Prop} (hgd : o.guard = none) (s x : Operand)
    (ho : o.op = .call { callee := .builtin .append, args := #[s, x], argTypes := #[26, 26] })
    (v xv : Value) (l m : List Bool) (hs : a.eval s = v) (hx : a.eval x = xv) (hown : OwnB w v l) (hox : OwnB w xv m) (hsz : l.length + m.length ≤ 175921860444160)
    (h : ∀ v' w', OwnB w' v' (l ++ m) → Fr w w' v v' → wpList Tryd.prog ops Q rest (a.put o.dst v') w') : wpList Tryd.prog ops Q (o :: rest) a w := by
  refine wpList_plain hgd fun K hK => ?_
  obtain ⟨v', w', hrun, h2, h3⟩ := run_appBs w o.type v l hown xv m hox hsz
  unfold Oper.wp execOp
  simp only [ho, resolve, invoke, builtin, Sem.run_bind, Sem.run_pure, Result.andThen_ok, List.map_toArray, List.map_cons, List.map_nil, hs, hx, hrun]
  exact hK _ _ (h v' w' h2 h3)
/-- the list has been moved, no block laid ahead -/
theorem St.grow0 {wr w1 : World} {g p : Nat} {v' v1 : Value} {cur l : List Bool} (h : St wr g v' cur p) (hf : Fr wr w1 v' v1) (ho : OwnB w1 v1 l) :
    w1.heap[g]? = wr.heap[g]? ∧ St (w1.setCell ⟨g, 0, none⟩ v1) g v1 l p ∧ Fw wr (w1.setCell ⟨g, 0, none⟩ v1) g v' v1 := by
  have hlt : g < wr.heap.size := h.cells.2.2.2
  have h1 : w1.heap[g]? = wr.heap[g]? := hf.1.block g hlt (fun e => h.apart e.symm)
  have h2 : v1.ownBlock ≠ some g := by
    rcases ho.2 with ⟨rfl, _⟩ | ⟨g', cap, cu, rfl, _, hh, _⟩
    · simp [Value.ownBlock]
    · intro he
      simp only [Value.ownBlock, Option.some.injEq] at he
      subst he
      rw [h1, h.1] at hh
      simp at hh
  refine ⟨h1, ⟨?_, ?_⟩, ?_⟩
  · have := heap_setCell_same w1 g 0 _ _ v1 (h1.trans h.1)
    rw [this]
    rfl
  · exact World.ownsRow.kept (row := some g) ho ⟨rfl, rfl, rfl, by simp, fun k _ hk => Below.heap_setCell _ _ _ _ (fun e => hk (by rw [e]))⟩ (.inr h2)
  · refine ⟨hf.1.os, hf.1.tape, hf.1.output, ?_, fun k hk hk1 hk2 => ?_, fun k hk => ?_⟩
    · have := hf.1.size
      simp at this ⊢
      omega
    · rw [Below.heap_setCell _ _ _ _ (by simpa using hk1), hf.1.block k hk hk2]
    · exact hf.2 k hk

set_option maxHeartbeats 1600000 in
theorem rint_any (g : Nat) (v : Value) (l : List Bool) (p : Nat) (n : Int) (x : BitVec 64) (w : World) (hs : St w g v l p) (hx : IntKind.u64.wrap n = I64 x) (hsz : l.length ≤ 8388608) :
    Calls Tryd.prog 29 #[.pointer (some ⟨g, 0, none⟩), .int .i64 n] w fun e w' => e = .returned (.int .i64 (iCode n x l.length)) ∧ ∃ v', St w' g v' (iNew n x l) p ∧ Fw w w' g v v' := by
  have H : Hid (St w g v l p) := hs
  have HFM : Hid (∀ w, Calls Tryd.prog 25 #[.int .i64 n] w fun e w' => ∃ v', e = .returned v' ∧ OwnB w' v' (form n x) ∧ w.grownBy w' none ∧ ∀ k, v'.ownBlock = some k → w.heap.size ≤ k) := fun w => form_any n x w hx
  have hfl : (form n x).length ≤ 72 := by
    rw [form_len]
    have := hb_le (rowN n)
    have := wd_le (rowN n)
    omega
  have HC : Hid (iCode n x l.length = (if 8388608 < l.length + (form n x).length then 8 else 0) ∧ iNew n x l = (if 8388608 < l.length + (form n x).length then l else l ++ form n x)) := ⟨rfl, rfl⟩
  have hc := hs.cells
  have c0 := hc.1
  obtain ⟨a, c, hv⟩ := hs.2.shape
  subst hv
  clear hs hc hx
  generalize form n x = FM at *
  generalize iCode n x l.length = IC at *
  generalize iNew n x l = IN at *
  by_cases hf : (8388608 : Int) < (l.length : Int) + (FM.length : Int)
  · have hN : 8388608 < l.length + FM.length := by omega
    rw [if_pos hN, if_pos hN] at HC
    have HL : Hid (l.length ≤ 8388608 ∧ FM.length ≤ 72) := ⟨hsz, hfl⟩
    have hl1 : (l.length : Int) ≤ 8388608 := by omega
    have hl2 : (FM.length : Int) ≤ 72 := by omega
    clear hN hsz hfl
    go_enter Tryd.func29, Tryd.ntmps29
    go_wp2_with fail
    refine (HFM.out _).mono ?_
    rintro e w1 ⟨v1, rfl, ho1, hg1, -⟩
    obtain ⟨a1, c1, hv1⟩ := ho1.shape
    subst hv1
    have d0 : w1.cell? ⟨g, 0, none⟩ = some (.slice a l.length c) := by rw [← c0]; exact World.cell?_of_block (hg1.block g (block_lt c0) (by simp))
    have H1 : Hid (St w1 g (.slice a l.length c) IN p ∧ Fw w w1 g (.slice a l.length c) (.slice a l.length c)) := ⟨by rw [HC.out.2]; exact H.out.keep hg1, Fw.of_none hg1 _ _⟩
    clear ho1 hg1 H c0
    go_wp2
    go_ret
    exact ⟨ret_int HC.out.1.symm, _, H1.out.1, H1.out.2⟩
  · have hN : ¬ 8388608 < l.length + FM.length := by omega
    rw [if_neg hN, if_neg hN] at HC
    have HL : Hid (l.length + FM.length ≤ 175921860444160) := by show l.length + FM.length ≤ 175921860444160; omega
    have hl1 : (l.length : Int) ≤ 8388608 := by omega
    have hl2 : (FM.length : Int) ≤ 72 := by omega
    clear hN hsz hfl
    go_enter Tryd.func29, Tryd.ntmps29
    go_wp2_with fail
    refine (HFM.out _).mono ?_
    rintro e w1 ⟨v1, rfl, ho1, hg1, -⟩
    obtain ⟨a1, c1, hv1⟩ := ho1.shape
    subst hv1
    have d0 : w1.cell? ⟨g, 0, none⟩ = some (.slice a l.length c) := by rw [← c0]; exact World.cell?_of_block (hg1.block g (block_lt c0) (by simp))
    have H1 : Hid (St w1 g (.slice a l.length c) l p ∧ Fw w w1 g (.slice a l.length c) (.slice a l.length c) ∧ OwnB w1 (.slice a1 FM.length c1) FM) := ⟨H.out.keep hg1, Fw.of_none hg1 _ _, ho1⟩
    clear ho1 hg1 H c0
    go_wp2_with (at_builtin; refine wp_appBs rfl _ _ rfl _ _ l FM rfl rfl H1.out.1.2 H1.out.2.2 HL.out ?_)
    intro v2 w2 ho2 hf2
    obtain ⟨a2, N2, c2, hv2⟩ := ho2.shape3
    subst hv2
    have hG := H1.out.1.grow0 hf2 ho2
    have hwg := hG.1.trans H1.out.1.1
    have d2 : w2.cell? ⟨g, 0, none⟩ = some (.slice a l.length c) := by simp [World.cell?, hwg]
    have df : w2.frozen? ⟨g, 0, none⟩ = false := by simp [World.frozen?, hwg]
    have H2 : Hid (St (w2.setCell ⟨g, 0, none⟩ (.slice a2 N2 c2)) g (.slice a2 N2 c2) IN p ∧ Fw w (w2.setCell ⟨g, 0, none⟩ (.slice a2 N2 c2)) g (.slice a l.length c) (.slice a2 N2 c2)) := ⟨by rw [HC.out.2]; exact hG.2.1, H1.out.2.1.trans hG.2.2⟩
    clear hG hwg H1 hf2 ho2 d0
    go_wp2
    go_ret
    exact ⟨ret_int HC.out.1.symm, _, H2.out.1, H2.out.2⟩

theorem rbitK (w wr : World) (g : Nat) (bs : List Bool) (b : Bool) (h : SN w wr g bs 0) (hs : bs.length ≤ 8388608) :
    Calls Tryd.prog 27 #[.pointer (some ⟨g, 0, none⟩), .bool b] wr fun e w' => e = .returned (.int .i64 (oCode bs.length)) ∧ SN w w' g (oNew b bs) 0 ∧ KeepT [28, 4] wr w' := by
  obtain ⟨h1, h2, v, h3, h4⟩ := h
  exact (rbit_any g v bs 0 b wr h3 hs).mono fun e w' ⟨he, v', hw, hfw⟩ => ⟨he, SN.step h1 h2 h4 hw hfw, KeepT.of_st h3 hfw⟩
theorem rbitsK (w wr : World) (g : Nat) (bs : List Bool) (x : BitVec 64) (n : Int) (h : SN w wr g bs 0) (hs : bs.length ≤ 8388608) :
    Calls Tryd.prog 28 #[.pointer (some ⟨g, 0, none⟩), .int .u64 (I64 x), .int .i64 n] wr fun e w' => e = .returned (.int .i64 (bCode x n bs.length)) ∧ SN w w' g (bNew x n bs) 0 ∧ KeepT [28, 4] wr w' := by
  obtain ⟨h1, h2, v, h3, h4⟩ := h
  exact (rbits_any g v bs 0 x n wr h3 hs).mono fun e w' ⟨he, v', hw, hfw⟩ => ⟨he, SN.step h1 h2 h4 hw hfw, KeepT.of_st h3 hfw⟩
theorem rintK (w wr : World) (g : Nat) (bs : List Bool) (n : Int) (x : BitVec 64) (h : SN w wr g bs 0) (hx : IntKind.u64.wrap n = I64 x) (hs : bs.length ≤ 8388608) :
    Calls Tryd.prog 29 #[.pointer (some ⟨g, 0, none⟩), .int .i64 n] wr fun e w' => e = .returned (.int .i64 (iCode n x bs.length)) ∧ SN w w' g (iNew n x bs) 0 ∧ KeepT [28, 4] wr w' := by
  obtain ⟨h1, h2, v, h3, h4⟩ := h
  exact (rint_any g v bs 0 n x wr h3 hx hs).mono fun e w' ⟨he, v', hw, hfw⟩ => ⟨he, SN.step h1 h2 h4 hw hfw, KeepT.of_st h3 hfw⟩
end Go.Proofs.YtgbpnkamamafjabDoor
