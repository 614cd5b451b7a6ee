/-
  No1, No2, No3, LawNfOpens, in one text.
-/
import Derived.Test.YtpglhdnepmcahaaGreatDoorNky
import Derived.Test.YtpglhdnepmcahaaGreatDoorHmC
import Derived.Test.YtpglhdnepmcahaaGreatDoorNmH
/- No1 -/
namespace Go.Proofs.YtpglhdnepmcahaaGreatDoor
open Go.RowKit Go.Shelf Go.Sort

def recAt (bss : List (List UInt8)) (z : Nat) : MkR × Int := readM (bss.getD z [])
/-- so many records read, and laid down -/
def OpT (bss : List (List UInt8)) : Nat → List MkX → Prop
  | 0, l => l = []
  | z + 1, l' => ∃ l x p, OpT bss z l ∧ (recAt bss z).2 = 0 ∧ x.1 = (recAt bss z).1 ∧ fullM l (keyX x) = false ∧ AtE l (keyX x) p ∧ l' = putM l x p
/-- the first record at fault -/
def OpBad (bss : List (List UInt8)) (z : Nat) (e : Int) : Prop := ∃ l, OpT bss z l ∧ (((recAt bss z).2 = e ∧ e ≠ 0) ∨ ((recAt bss z).2 = 0 ∧ fullM l ((recAt bss z).1.rcv, (recAt bss z).1.key) = true ∧ e = 8))
theorem SamM.full {a b : List MkX} (h : SamM a b) (k : LbT) : fullM a k = fullM b k := by
  unfold fullM
  rw [h.has, h.len]
theorem OpT.sam {bss : List (List UInt8)} : ∀ (z : Nat) (l1 l2 : List MkX), OpT bss z l1 → OpT bss z l2 → SamM l1 l2
  | 0, l1, l2, h1, h2 => by
    have e1 : l1 = [] := h1
    have e2 : l2 = [] := h2
    rw [e1, e2]
    rfl
  | z + 1, l1, l2, h1, h2 => by
    obtain ⟨a, x, p, ha, -, hx, -, hp, rfl⟩ := h1
    obtain ⟨b, y, q, hb, -, hy, -, hq, rfl⟩ := h2
    exact (OpT.sam z a b ha hb).put (hx.trans hy.symm) hp hq
theorem OpT.down {bss : List (List UInt8)} {y : Nat} : ∀ (z : Nat) (l : List MkX), y ≤ z → OpT bss z l → ∃ l', OpT bss y l'
  | 0, l, hy, h => ⟨l, by have : y = 0 := by omega
                          rw [this]; exact h⟩
  | z + 1, l, hy, h => by
    by_cases e : y = z + 1
    · exact ⟨l, by rw [e]; exact h⟩
    · obtain ⟨a, x, p, ha, -⟩ := h
      exact OpT.down z a (by omega) ha
theorem OpBad.next {bss : List (List UInt8)} {z : Nat} {e : Int} {l : List MkX} (h : OpBad bss z e) (h2 : OpT bss (z + 1) l) : False := by
  obtain ⟨a, ha, h⟩ := h
  obtain ⟨b, x, p, hb, h0, hx, hf, -⟩ := h2
  rcases h with ⟨h1, h2⟩ | ⟨-, h1, -⟩
  · exact h2 (h1.symm.trans h0)
  · have hk : keyX x = ((recAt bss z).1.rcv, (recAt bss z).1.key) := by unfold keyX; rw [hx]
    rw [hk, (OpT.sam z b a hb ha).full, h1] at hf
    cases hf
theorem OpBad.not {bss : List (List UInt8)} {z n : Nat} {e : Int} {l : List MkX} (h : OpBad bss z e) (hn : z < n) (h2 : OpT bss n l) : False := by
  obtain ⟨l', h'⟩ := OpT.down n l (y := z + 1) (by omega) h2
  exact h.next h'
theorem OpBad.uniq {bss : List (List UInt8)} {z z' : Nat} {e e' : Int} (h : OpBad bss z e) (h' : OpBad bss z' e') : z = z' ∧ e = e' := by
  have hz : z = z' := by
    obtain ⟨l, hl, -⟩ := id h
    obtain ⟨l', hl', -⟩ := id h'
    rcases Nat.lt_trichotomy z z' with q | q | q
    · exact (h.not q hl').elim
    · exact q
    · exact (h'.not q hl).elim
  subst hz
  refine ⟨rfl, ?_⟩
  obtain ⟨a, ha, q1⟩ := h
  obtain ⟨b, hb, q2⟩ := h'
  rcases q1 with ⟨r1, r2⟩ | ⟨r1, r2, r3⟩ <;> rcases q2 with ⟨s1, s2⟩ | ⟨s1, s2, s3⟩
  · exact r1.symm.trans s1
  · exact (r2 (r1.symm.trans s1)).elim
  · exact (s2 (s1.symm.trans r1)).elim
  · exact r3.trans s3.symm
theorem readM_right {l : List UInt8} (h : (readM l).2 = 0) : rightM (readM l).1 = 0 := by
  unfold readM at h ⊢
  split at h
  · rename_i hc
    rw [if_pos hc]
    exact hc.2.2
  · cases h
/-- a list of records in memory -/
def RdBB (W : World) (v : Value) (bss : List (List UInt8)) : Prop := ∃ a c, v = .slice a bss.length c ∧ bss.length ≤ c ∧ ∀ j, j < bss.length → ∃ b o x y z, a = some ⟨b, o, none⟩ ∧ W.cell? ⟨b, o + j, none⟩ = some (.slice x y z) ∧ Rd W (.slice x y z) (bss.getD j []) ∧ (bss.getD j []).length ≤ 1000000000000000000
theorem RdBB.keep {W W' : World} {v : Value} {bss : List (List UInt8)} (h : RdBB W v bss) (hg : W.grownBy W' none) : RdBB W' v bss := by
  obtain ⟨a, c, e, hc, hr⟩ := h
  refine ⟨a, c, e, hc, fun j hj => ?_⟩
  obtain ⟨b, o, x, y, z, e1, h1, h2, h3⟩ := hr j hj
  exact ⟨b, o, x, y, z, e1, (World.cell?_of_block (hg.block _ (block_lt h1) (by simp))).trans h1, h2.keep hg, h3⟩
/-- what Open answers -/
def OpP (w : World) (bss : List (List UInt8)) (e : Ending) (w' : World) : Prop :=
  (∃ z er, z < bss.length ∧ OpBad bss z er ∧ e = .returned (.tuple #[.pointer none, .int .i64 er, .int .i64 (z : Int)]) ∧ w.grownBy w' none) ∨
  (∃ gx v l, e = .returned (.tuple #[.pointer (some ⟨gx, 0, none⟩), .int .i64 0, .int .i64 0]) ∧ OpT bss bss.length l ∧ LgX w' gx v l ∧ (∀ k, FpL gx v k → w.heap.size ≤ k) ∧ w.grownBy w' none)
def OpR (w : World) (bss : List (List UInt8)) (e : Ending) (w' : World) : Prop :=
  (∃ z er, z < bss.length ∧ OpBad bss z er ∧ e = .returned (.tuple #[.pointer none, .int .i64 er, .int .i64 (z : Int)]) ∧ w.grownBy w' none) ∨
  (∃ gx v l, e = .returned (.tuple #[.pointer (some ⟨gx, 0, none⟩), .int .i64 0, .int .i64 0]) ∧ OpT bss bss.length l ∧ RefX w' gx v l ∧ (∀ k, FpL gx v k → w.heap.size ≤ k) ∧ w.grownBy w' none)
theorem take_at {l : List MkX} {z k : Nat} (hk : k < z) : (l.take z).getD k xZ = l.getD k xZ := by
  simp [List.getD, hk]
/-- a mark behind all that are there -/
theorem ris_back {l m : List MkX} (h : risM l) {z p : Nat} (hz : z < l.length) (hm : SamM m (l.take z)) (hp : AtE m (keyX (l.getD z xZ)) p) : hasM m (keyX (l.getD z xZ)) = false ∧ p = z := by
  have hl : (l.take z).length = z := by simp; omega
  have hq : AtE (l.take z) (keyX (l.getD z xZ)) z := by
    refine ⟨by omega, fun k hk => ?_, fun k h1 h2 => by omega⟩
    rw [take_at hk]
    have e1 : l.getD k xZ = l[k] := by simp [List.getD, show k < l.length by omega]
    have e2 : l.getD z xZ = l[z] := by simp [List.getD, hz]
    rw [e1, e2]
    exact List.pairwise_iff_getElem.1 h k z _ _ hk
  have e := (hp.sam hm).uniq hq
  refine ⟨?_, e⟩
  rw [hm.has, hq.has (List.Pairwise.sublist (List.take_sublist z l) h)]
  simp [hl]
theorem rec_back {m : MkR} (hR : rightM m = 0) : readM (recS m) = (m, 0) := by
  have hrec : recS m = recB m := by unfold recS; rw [if_pos hR]
  rw [hrec]
  have ht := right_txt hR
  have hs := right_sets hR
  have hl5 := right_len hR
  exact readM_back hR ht.1 ht.2.1 ht.2.2 ⟨hl5.1, allR_mem hs.1⟩ ⟨hl5.2, allR_mem hs.2⟩
theorem recs_at {l : List MkX} (hr : ∀ x ∈ l, rightM x.1 = 0) {z : Nat} (hz : z < l.length) : recAt (recsL l) z = ((l.getD z xZ).1, 0) := by
  have e2 : l.getD z xZ = l[z] := by simp [List.getD, hz]
  have e : (recsL l).getD z [] = recS l[z].1 := by
    unfold recsL
    simp [List.getD, hz]
  unfold recAt
  rw [e, e2]
  exact rec_back (hr _ (List.getElem_mem hz))
/-- records of rising marks, opened: the marks -/
theorem opT_back {l : List MkX} (h : risM l) (hr : ∀ x ∈ l, rightM x.1 = 0) : ∀ (z : Nat) (m : List MkX), z ≤ l.length → OpT (recsL l) z m → SamM m (l.take z)
  | 0, m, hz, hm => by
    have e : m = [] := hm
    rw [e]
    rfl
  | z + 1, m, hz, hm => by
    obtain ⟨a, x, p, ha, -, hx, -, hp, rfl⟩ := hm
    have hi := opT_back h hr z a (by omega) ha
    rw [recs_at hr (by omega)] at hx
    have hk : keyX x = keyX (l.getD z xZ) := keyX_one _ _ hx
    rw [hk] at hp
    obtain ⟨q1, q2⟩ := ris_back h (by omega) hi hp
    have hl : a.length = z := by rw [hi.len]; simp; omega
    unfold SamM putM
    rw [hk, q1, q2, if_neg (by simp), List.take_of_length_le (by omega), List.drop_of_length_le (by omega), List.append_nil, List.map_append, show a.map (·.1) = (l.take z).map (·.1) from hi, List.take_succ_eq_append_getElem (by omega), List.map_append]
    have e2 : l.getD z xZ = l[z] := by simp [List.getD, show z < l.length by omega]
    rw [e2] at hx
    simp [hx]
theorem opBad_back {l : List MkX} (h : risM l) (hr : ∀ x ∈ l, rightM x.1 = 0) (h5 : l.length ≤ 500) {z : Nat} {e : Int} (hz : z < l.length) (hb : OpBad (recsL l) z e) : False := by
  obtain ⟨a, ha, hb⟩ := hb
  rw [recs_at hr hz] at hb
  rcases hb with ⟨q1, q2⟩ | ⟨-, q2, -⟩
  · exact q2 q1.symm
  · have hi := opT_back h hr z a (by omega) ha
    have hl : a.length = z := by rw [hi.len]; simp; omega
    unfold fullM at q2
    simp at q2
    omega
end Go.Proofs.YtpglhdnepmcahaaGreatDoor

/- No2 -/
namespace Go.Proofs.YtpglhdnepmcahaaGreatDoor
open Go.RowKit Go.Shelf Go.Sort

/-- so many records laid down in the project's log -/
def OpJ (w wr : World) (gx : Nat) (bss : List (List UInt8)) (z : Nat) : Prop := ∃ v l, OpT bss z l ∧ LgX wr gx v l ∧ (∀ k, FpL gx v k → w.heap.size ≤ k) ∧ w.grownBy wr none
theorem OpJ.keep {w W W' : World} {gx z : Nat} {bss : List (List UInt8)} (h : OpJ w W gx bss z) (hg : W.grownBy W' none) : OpJ w W' gx bss z := by
  obtain ⟨v, l, h1, h2, h3, h4⟩ := h
  exact ⟨v, l, h1, h2.keep hg, h3, gb_none h4 hg⟩
theorem OpJ.gb {w W : World} {gx z : Nat} {bss : List (List UInt8)} (h : OpJ w W gx bss z) : w.grownBy W none := by
  obtain ⟨v, l, h1, h2, h3, h4⟩ := h
  exact h4
/-- a mark that was read -/
def MkR1 (W : World) (m : MkR) (f s : Value) : Prop := OwnLL W 0 f m.fir ∧ OwnLL W 0 s m.res
theorem MkR1.keep {W W' : World} {m : MkR} {f s : Value} (h : MkR1 W m f s) (hg : W.grownBy W' none) : MkR1 W' m f s := ⟨h.1.keep hg, h.2.keep hg⟩
theorem MkR1.rd {W : World} {m : MkR} {f s : Value} (h : MkR1 W m f s) (hR : rightM m = 0) : RdM W m f s := by
  have ht := right_txt hR
  have hs := right_sets hR
  have hl := right_len hR
  have hin : ∀ lss : List (List LbT), lss.length ≤ 500 → allR lss = true → LLIn lss := fun lss h5 ha => by
    refine ⟨by omega, fun j => ?_⟩
    by_cases hj : j < lss.length
    · exact right_in (allR_mem ha (lss.getD j []) (by simp [List.getD, hj]))
    · have e : lss.getD j [] = [] := by simp [List.getD, List.getElem?_eq_none (by omega : lss.length ≤ j)]
      rw [e]
      exact LbIn.nil
  exact ⟨h.1.rd, h.2.rd, hin _ hl.1 hs.1, hin _ hl.2 hs.2, by have := ht.1.1; omega, by have := ht.2.1.1; omega⟩
theorem OpJ.lay {w W : World} {gx z : Nat} {bss : List (List UInt8)} {f s : Value} (h : OpJ w W gx bss z) (h0 : (recAt bss z).2 = 0) (hm : MkR1 W (recAt bss z).1 f s) :
    Calls Tryz.prog 12 #[.pointer (some ⟨gx, 0, none⟩), markV (recAt bss z).1 f s] W fun e w' => (e = .returned (.int .i64 8) ∧ Hid (OpBad bss z 8 ∧ w.grownBy w' none)) ∨ (e = .returned (.int .i64 0) ∧ Hid (OpJ w w' gx bss (z + 1))) := by
  obtain ⟨v, l, h1, h2, h3, h4⟩ := h
  have hR : rightM (recAt bss z).1 = 0 := readM_right h0
  refine (layX_any W gx v l _ f s h2 (hm.rd hR) hR).mono ?_
  rintro e w' (⟨q1, q2, q3⟩ | ⟨q1, q2, f', s', ⟨v', p, r1, r2, r3⟩, -⟩)
  · exact .inl ⟨q2, ⟨l, h1, .inr ⟨h0, q1, rfl⟩⟩, gb_none h4 q3⟩
  · refine .inr ⟨q2, v', _, ⟨l, ((recAt bss z).1, f', s'), p, h1, h0, rfl, q1, r1, rfl⟩, r2, fun k hk => ?_, gb_ch h4 r3.1 h3⟩
    rcases hk with rfl | hk
    · exact h3 _ (.inl rfl)
    · rcases r3.2 k hk with q | q
      · exact h3 _ (.inr q)
      · exact Nat.le_trans h4.size q
set_option maxRecDepth 8000 in
set_option maxHeartbeats 12800000 in
theorem openX_any (w : World) (v : Value) (bss : List (List UInt8)) (h : RdBB w v bss) (hn : bss.length ≤ 1000000000000000000) (hT : U8S w) :
    Calls Tryz.prog 4 #[v] w fun e w' => OpP w bss e w' := by
  obtain ⟨va, vc, rfl, hvc, hr⟩ := h
  have HR := hidJ hr
  have HT := hidJ hT
  clear hr hT
  have HNw : Hid (Calls Tryz.prog 10 #[] w fun e w' => e = .returned (.pointer (some ⟨w.heap.size, 0, none⟩)) ∧ Hid (OpJ w w' w.heap.size bss 0)) := (newN_any w).mono fun e w' ⟨q1, q2, q3⟩ => by
    refine ⟨q1, .slice none 0 0, [], rfl, ⟨q2, OwnE.nil _ _, List.Pairwise.nil, (fun x hx => by cases hx), by simp⟩, fun k hk => ?_, q3⟩
    rcases hk with rfl | hk
    · exact Nat.le_refl _
    · simp [Value.ownBlock] at hk
  obtain ⟨gx, hgx⟩ : ∃ gx, w.heap.size = gx := ⟨_, rfl⟩
  rw [hgx] at HNw
  clear hgx
  have HY : Hid (∀ W, OpJ w W gx bss bss.length → OpP w bss (.returned (.tuple #[.pointer (some ⟨gx, 0, none⟩), .int .i64 0, .int .i64 0])) W) := fun W ⟨v, l, h1, h2, h3, h4⟩ => .inr ⟨gx, v, l, rfl, h1, h2, h3, h4⟩
  have HB : Hid (∀ W z er, z < bss.length → OpBad bss z er → w.grownBy W none → OpP w bss (.returned (.tuple #[.pointer none, .int .i64 er, .int .i64 (z : Int)])) W) := fun W z er h1 h2 h3 => .inl ⟨z, er, h1, h2, rfl, h3⟩
  have HLy : Hid (∀ W z f s, OpJ w W gx bss z → (recAt bss z).2 = 0 → MkR1 W (recAt bss z).1 f s → Calls Tryz.prog 12 #[.pointer (some ⟨gx, 0, none⟩), markV (recAt bss z).1 f s] W fun e w' => (e = .returned (.int .i64 8) ∧ Hid (OpBad bss z 8 ∧ w.grownBy w' none)) ∨ (e = .returned (.int .i64 0) ∧ Hid (OpJ w w' gx bss (z + 1)))) := fun W z f s h1 h2 h3 => h1.lay h2 h3
  have HRd : Hid (∀ W z x y u, OpJ w W gx bss z → Rd W (.slice x y u) (bss.getD z []) → (bss.getD z []).length ≤ 1000000000000000000 → Calls Tryz.prog 11 #[.slice x y u] W fun e w' => ∃ a1 n1 c1 a2 n2 c2, e = .returned (.tuple #[markV (recAt bss z).1 (.slice a1 n1 c1) (.slice a2 n2 c2), .int .i64 (recAt bss z).2]) ∧ Hid (OpJ w w' gx bss z ∧ MkR1 w' (recAt bss z).1 (.slice a1 n1 c1) (.slice a2 n2 c2))) := fun W z x y u h1 h2 h3 =>
    (readR_any W _ _ h2 h3 (HT.out.keep h1.gb)).mono fun e w' ⟨a1, c1, a2, c2, q1, q2, q3, q4⟩ => ⟨a1, _, c1, a2, _, c2, q1, h1.keep q4, q2.mono (Nat.zero_le _), q3.mono (Nat.zero_le _)⟩
  have HBd : Hid (∀ W z, OpJ w W gx bss z → (recAt bss z).2 ≠ 0 → OpBad bss z (recAt bss z).2) := fun W z ⟨v, l, h1, _⟩ h0 => ⟨l, h1, .inl ⟨rfl, h0⟩⟩
  generalize hbn : bss.length = n at *
  clear hbn
  obtain ⟨RP, hRP⟩ : ∃ RP : Ending → World → Prop, RP = fun e w' => OpP w bss e w' := ⟨_, rfl⟩
  rw [show (fun e w' => OpP w bss e w') = (fun e w' => RP e w') by rw [hRP]]
  have HY2 : Hid (∀ W, OpJ w W gx bss n → RP (.returned (.tuple #[.pointer (some ⟨gx, 0, none⟩), .int .i64 0, .int .i64 0])) W) := by rw [hRP]; exact HY.out
  have HB2 : Hid (∀ W z er, z < n → OpBad bss z er → w.grownBy W none → RP (.returned (.tuple #[.pointer none, .int .i64 er, .int .i64 (z : Int)])) W) := by rw [hRP]; exact HB.out
  clear hRP HY HB
  go_enter Tryz.func4, Tryz.ntmps4
  go_wp2_with fail
  refine HNw.out.mono ?_
  rintro e w1 ⟨rfl, H1⟩
  clear HNw
  go_wp2_with fail
  go_loopw [13] (fun i wr => ∃ z : Nat, z ≤ n ∧ i = .int .i64 z ∧ Hid (OpJ w wr gx bss z)) (fun i _ => n - (intOf i).toNat)
  case atStart => exact ⟨0, by omega, rfl, H1.out⟩
  case round =>
    obtain ⟨z, hzN, rfl, hr⟩ := hrel
    clear H1
    by_cases hzl : z < n
    · have hzi : (z : Int) < (n : Int) := by omega
      obtain ⟨b, o, x, y, u, rfl, d0, hrd, hlen⟩ := HR.out z hzl
      replace d0 := (World.cell?_of_block (hr.out.gb.block _ (block_lt d0) (by simp))).trans d0
      have HC := hidJ (HRd.out wr z x y u hr.out (hrd.keep hr.out.gb) hlen)
      have HL := hidJ (fun W f s => HLy.out W z f s)
      have HBz := hidJ (fun W => HBd.out W z)
      have HBy := hidJ (fun W er => HB2.out W z er hzl)
      clear hrd hlen HRd HLy HBd HB2 HR
      unfold markV at HC HL
      generalize recAt bss z = ra at *
      obtain ⟨m, er⟩ := ra
      dsimp only at HC HL HBz
      generalize ByteArray.mk ⟨m.rcv⟩ = br at *
      generalize ByteArray.mk ⟨m.key⟩ = bk at *
      generalize m.tim = tm at *
      go_wp2_with fail
      refine HC.out.mono ?_
      rintro e w2 ⟨a1, n1, c1, a2, n2, c2, rfl, H2⟩
      clear HC d0
      have k2 := World.grownBy_alloc w2 (.cells #[.string br, .string bk, .int .i64 tm, .slice a1 n1 c1, .slice a2 n2 c2] 34) none
      have H3 := hidJ (And.intro (H2.out.1.keep k2) (And.intro (H2.out.2.keep k2) (B5.new w2 34 (.string br) (.string bk) (.int .i64 tm) (.slice a1 n1 c1) (.slice a2 n2 c2))))
      clear k2 H2
      by_cases h0 : er = 0
      · subst h0
        obtain ⟨e0, e1, e2, e3, e4⟩ := H3.out.2.2.cells
        go_wp2_with fail
        refine (HL.out _ _ _ H3.out.1 (by first | rfl | trivial) H3.out.2.1).mono ?_
        rintro e w4 (⟨rfl, H4⟩ | ⟨rfl, H4⟩)
        · have HF := hidJ (HBy.out w4 8 H4.out.1 H4.out.2)
          clear HL HBz HBy H3 H4 e0 e1 e2 e3 e4
          go_wp2
          first | exact HF.out | (go_ret3; exact HF.out)
        · clear HL HBz HBy H3 e0 e1 e2 e3 e4
          go_wp2
          go_roundw
          case rel => exact ⟨z + 1, by omega, by first | rfl | go_num, H4.out⟩
          case measure => simp [intOf]; omega
      · have hne : (er == 0) = false := by simp [h0]
        have HF := hidJ (HBy.out _ er (HBz.out _ H3.out.1 h0) H3.out.1.gb)
        clear HL HBz HBy H3
        go_wp2
        first | exact HF.out | (go_ret3; exact HF.out)
    · have hzi : ¬ (z : Int) < (n : Int) := by omega
      have hzn : z = n := by omega
      have HF := hidJ (HY2.out wr (by rw [← hzn]; exact hr.out))
      clear hzn
      go_wp2
      first | exact HF.out | (go_ret3; exact HF.out)
end Go.Proofs.YtpglhdnepmcahaaGreatDoor

/- No3 -/
namespace Go.Proofs.YtpglhdnepmcahaaGreatDoor
open Go.RowKit Go.Shelf Go.Sort

/-- so many records laid down in the document's log -/
def OrJ (w wr : World) (gx : Nat) (bss : List (List UInt8)) (z : Nat) : Prop := ∃ v l, OpT bss z l ∧ RefX wr gx v l ∧ (∀ k, FpL gx v k → w.heap.size ≤ k) ∧ w.grownBy wr none ∧ l.length ≤ 500
theorem OrJ.keep {w W W' : World} {gx z : Nat} {bss : List (List UInt8)} (h : OrJ w W gx bss z) (hg : W.grownBy W' none) : OrJ w W' gx bss z := by
  obtain ⟨v, l, h1, h2, h3, h4, h5⟩ := h
  exact ⟨v, l, h1, h2.keep hg, h3, gb_none h4 hg, h5⟩
theorem OrJ.gb {w W : World} {gx z : Nat} {bss : List (List UInt8)} (h : OrJ w W gx bss z) : w.grownBy W none := by
  obtain ⟨v, l, h1, h2, h3, h4, h5⟩ := h
  exact h4
theorem OrJ.put {w W : World} {gx z : Nat} {bss : List (List UInt8)} {f s : Value} (h : OrJ w W gx bss z) (h0 : (recAt bss z).2 = 0) (hm : MkR1 W (recAt bss z).1 f s) :
    Calls Tryz.prog 14 #[.pointer (some ⟨gx, 0, none⟩), markV (recAt bss z).1 f s] W fun e w' => e = .returned (.tuple #[]) ∧ ∃ a n c, w'.cell? ⟨gx, 0, none⟩ = some (.slice a n c) ∧ ((500 < n ∧ Hid (OpBad bss z 8 ∧ w.grownBy w' none)) ∨ (n ≤ 500 ∧ Hid (OrJ w w' gx bss (z + 1)))) := by
  obtain ⟨v, l, h1, h2, h3, h4, h5⟩ := h
  have hR : rightM (recAt bss z).1 = 0 := readM_right h0
  refine (refPutX_any W gx v l _ f s h2 (hm.rd hR) hR (by omega)).mono ?_
  rintro e w' ⟨q1, f', s', v', p, r1, r2, r3, -⟩
  obtain ⟨a, c, ev, -⟩ := r2.row.shape
  have hb := r2.box.cell
  rw [ev] at hb
  refine ⟨q1, a, _, c, hb, ?_⟩
  have hgb := gb_ch h4 r3.1 h3
  have hln := putM_len l ((recAt bss z).1, f', s') p r1.1
  have hk : keyX ((recAt bss z).1, f', s') = ((recAt bss z).1.rcv, (recAt bss z).1.key) := rfl
  by_cases hf : fullM l ((recAt bss z).1.rcv, (recAt bss z).1.key) = true
  · refine .inl ⟨?_, ⟨l, h1, .inr ⟨h0, hf, rfl⟩⟩, hgb⟩
    unfold fullM at hf
    simp only [Bool.and_eq_true, Bool.not_eq_true', decide_eq_true_eq] at hf
    rw [hln, hk, hf.1, if_neg (by simp)]
    omega
  · have hf2 : fullM l ((recAt bss z).1.rcv, (recAt bss z).1.key) = false := by simpa using hf
    have hle : (putM l ((recAt bss z).1, f', s') p).length ≤ 500 := by
      rw [hln]
      split
      · exact h5
      · rename_i hh
        unfold fullM at hf2
        rw [hk] at hh
        simp only [Bool.not_eq_true] at hh
        rw [hh] at hf2
        simp at hf2
        omega
    refine .inr ⟨hle, v', _, ⟨l, ((recAt bss z).1, f', s'), p, h1, h0, rfl, hf2, r1, rfl⟩, r2, fun k hk => ?_, hgb, hle⟩
    rcases hk with rfl | hk
    · exact h3 _ (.inl rfl)
    · rcases r3.2 k hk with q | q
      · exact h3 _ (.inr q)
      · exact Nat.le_trans h4.size q
set_option maxRecDepth 8000 in
set_option maxHeartbeats 12800000 in
theorem refOpen_any (w : World) (v : Value) (bss : List (List UInt8)) (h : RdBB w v bss) (hn : bss.length ≤ 1000000000000000000) :
    Calls Tryz.prog 5 #[v] w fun e w' => OpR w bss e w' := by
  obtain ⟨va, vc, rfl, hvc, hr⟩ := h
  have HR := hidJ hr
  clear hr
  have HN : Hid (OrJ w (w.alloc (.cells #[.slice none 0 0] 48)) w.heap.size bss 0) := by
    refine ⟨.slice none 0 0, [], rfl, ⟨Boxed.new _ _ _, OwnK.nil _ _, List.Pairwise.nil, (fun x hx => by cases hx), by simp⟩, fun k hk => ?_, World.grownBy_alloc _ _ none, by simp⟩
    rcases hk with rfl | hk
    · exact Nat.le_refl _
    · simp [Value.ownBlock] at hk
  have HY : ∀ gx W, OrJ w W gx bss bss.length → OpR w bss (.returned (.tuple #[.pointer (some ⟨gx, 0, none⟩), .int .i64 0, .int .i64 0])) W := fun gx W ⟨v, l, h1, h2, h3, h4, h5⟩ => .inr ⟨gx, v, l, rfl, h1, h2, h3, h4⟩
  have HB : ∀ W z er, z < bss.length → OpBad bss z er → w.grownBy W none → OpR w bss (.returned (.tuple #[.pointer none, .int .i64 er, .int .i64 (z : Int)])) W := fun W z er h1 h2 h3 => .inl ⟨z, er, h1, h2, rfl, h3⟩
  have HLy : Hid (∀ gx W z f s, OrJ w W gx bss z → (recAt bss z).2 = 0 → MkR1 W (recAt bss z).1 f s → Calls Tryz.prog 14 #[.pointer (some ⟨gx, 0, none⟩), markV (recAt bss z).1 f s] W fun e w' => e = .returned (.tuple #[]) ∧ ∃ a n c, w'.cell? ⟨gx, 0, none⟩ = some (.slice a n c) ∧ ((500 < n ∧ Hid (OpBad bss z 8 ∧ w.grownBy w' none)) ∨ (n ≤ 500 ∧ Hid (OrJ w w' gx bss (z + 1))))) := fun gx W z f s h1 h2 h3 => h1.put h2 h3
  have HRd : Hid (∀ gx W z x y u, OrJ w W gx bss z → Rd W (.slice x y u) (bss.getD z []) → (bss.getD z []).length ≤ 1000000000000000000 → Calls Tryz.prog 13 #[.slice x y u] W fun e w' => ∃ a1 n1 c1 a2 n2 c2, e = .returned (.tuple #[markV (recAt bss z).1 (.slice a1 n1 c1) (.slice a2 n2 c2), .int .i64 (recAt bss z).2]) ∧ Hid (OrJ w w' gx bss z ∧ MkR1 w' (recAt bss z).1 (.slice a1 n1 c1) (.slice a2 n2 c2))) := fun gx W z x y u h1 h2 h3 =>
    (refReadM_any W _ _ h2 h3).mono fun e w' ⟨a1, c1, a2, c2, q1, q2, q3, q4⟩ => ⟨a1, _, c1, a2, _, c2, q1, h1.keep q4, q2.mono (Nat.zero_le _), q3.mono (Nat.zero_le _)⟩
  have HBd : Hid (∀ gx W z, OrJ w W gx bss z → (recAt bss z).2 ≠ 0 → OpBad bss z (recAt bss z).2) := fun gx W z ⟨v, l, h1, _⟩ h0 => ⟨l, h1, .inl ⟨rfl, h0⟩⟩
  generalize hbn : bss.length = n at *
  clear hbn
  obtain ⟨RP, hRP⟩ : ∃ RP : Ending → World → Prop, RP = fun e w' => OpR w bss e w' := ⟨_, rfl⟩
  rw [show (fun e w' => OpR w bss e w') = (fun e w' => RP e w') by rw [hRP]]
  have HY2 : Hid (∀ gx W, OrJ w W gx bss n → RP (.returned (.tuple #[.pointer (some ⟨gx, 0, none⟩), .int .i64 0, .int .i64 0])) W) := by rw [hRP]; exact HY
  have HB2 : Hid (∀ W z er, z < n → OpBad bss z er → w.grownBy W none → RP (.returned (.tuple #[.pointer none, .int .i64 er, .int .i64 (z : Int)])) W) := by rw [hRP]; exact HB
  clear hRP HY HB
  go_enter Tryz.func5, Tryz.ntmps5
  go_wp2_with fail
  generalize w.alloc (.cells #[.slice none 0 0] 48) = W1 at *
  generalize w.heap.size = gx at *
  go_loopw [14] (fun i wr => ∃ z : Nat, z ≤ n ∧ i = .int .i64 z ∧ Hid (OrJ w wr gx bss z)) (fun i _ => n - (intOf i).toNat)
  case atStart => exact ⟨0, by omega, rfl, HN.out⟩
  case round =>
    obtain ⟨z, hzN, rfl, hr⟩ := hrel
    clear HN
    by_cases hzl : z < n
    · have hzi : (z : Int) < (n : Int) := by omega
      obtain ⟨b, o, x, y, u, rfl, d0, hrd, hlen⟩ := HR.out z hzl
      replace d0 := (World.cell?_of_block (hr.out.gb.block _ (block_lt d0) (by simp))).trans d0
      have HC := hidJ (HRd.out gx wr z x y u hr.out (hrd.keep hr.out.gb) hlen)
      have HL := hidJ (fun W f s => HLy.out gx W z f s)
      have HBz := hidJ (fun W => HBd.out gx W z)
      have HBy := hidJ (fun W er => HB2.out W z er hzl)
      clear hrd hlen HRd HLy HBd HB2 HR
      unfold markV at HC HL
      generalize recAt bss z = rv at *
      obtain ⟨m, er⟩ := rv
      dsimp only at HC HL HBz
      generalize ByteArray.mk ⟨m.rcv⟩ = br at *
      generalize ByteArray.mk ⟨m.key⟩ = bk at *
      generalize m.tim = tm at *
      go_wp2_with fail
      refine HC.out.mono ?_
      rintro e w2 ⟨a1, n1, c1, a2, n2, c2, rfl, H2⟩
      clear HC d0
      have k2 := World.grownBy_alloc w2 (.cells #[.string br, .string bk, .int .i64 tm, .slice a1 n1 c1, .slice a2 n2 c2] 34) none
      have H3 := hidJ (And.intro (H2.out.1.keep k2) (And.intro (H2.out.2.keep k2) (B5.new w2 34 (.string br) (.string bk) (.int .i64 tm) (.slice a1 n1 c1) (.slice a2 n2 c2))))
      clear k2 H2
      by_cases h0 : er = 0
      · subst h0
        obtain ⟨e0, e1, e2, e3, e4⟩ := H3.out.2.2.cells
        go_wp2_with fail
        refine (HL.out _ _ _ H3.out.1 (by first | rfl | trivial) H3.out.2.1).mono ?_
        rintro e w4 ⟨rfl, a4, n4, c4, p0, (⟨hn4, H4⟩ | ⟨hn4, H4⟩)⟩
        · have hni : (500 : Int) < (n4 : Int) := by omega
          have HF := hidJ (HBy.out w4 8 H4.out.1 H4.out.2)
          clear HL HBz HBy H3 H4 e0 e1 e2 e3 e4
          go_wp2
          first | exact HF.out | (go_ret3; exact HF.out)
        · have hni : ¬ (500 : Int) < (n4 : Int) := by omega
          clear HL HBz HBy H3 e0 e1 e2 e3 e4
          go_wp2
          go_roundw
          case rel => exact ⟨z + 1, by omega, by first | rfl | go_num, H4.out⟩
          case measure => simp [intOf]; omega
      · have hne : (er == 0) = false := by simp [h0]
        have HF := hidJ (HBy.out _ er (HBz.out _ H3.out.1 h0) H3.out.1.gb)
        clear HL HBz HBy H3
        go_wp2
        first | exact HF.out | (go_ret3; exact HF.out)
    · have hzi : ¬ (z : Int) < (n : Int) := by omega
      have hzn : z = n := by omega
      have HF := hidJ (HY2.out gx wr (by rw [← hzn]; exact hr.out))
      clear hzn
      go_wp2
      first | exact HF.out | (go_ret3; exact HF.out)
end Go.Proofs.YtpglhdnepmcahaaGreatDoor

/- LawNfOpens -/
namespace Go.Proofs.YtpglhdnepmcahaaGreatDoor
open Go.RowKit Go.Shelf Go.Sort

/-- both opened: both at the same fault, or both alike -/
theorem opens_both {w w1 w2 : World} {bss : List (List UInt8)} {e1 e2 : Ending} (h1 : OpP w bss e1 w1) (h2 : OpR w1 bss e2 w2) :
    (∃ (er at_ : Int), er ≠ 0 ∧ e1 = .returned (.tuple #[.pointer none, .int .i64 er, .int .i64 at_]) ∧ e2 = .returned (.tuple #[.pointer none, .int .i64 er, .int .i64 at_]) ∧ w.grownBy w2 none) ∨
    (∃ gx gr, e1 = .returned (.tuple #[.pointer (some ⟨gx, 0, none⟩), .int .i64 0, .int .i64 0]) ∧ e2 = .returned (.tuple #[.pointer (some ⟨gr, 0, none⟩), .int .i64 0, .int .i64 0]) ∧ Stp w w2 gx gr) := by
  rcases h1 with ⟨z, er, hz, hb, q1, g1⟩ | ⟨gx, v, l, q1, ho, hx, hf, g1⟩ <;> rcases h2 with ⟨z', er', hz', hb', q2, g2⟩ | ⟨gr, v', l', q2, ho', hr, hf', g2⟩
  · obtain ⟨rfl, rfl⟩ := hb.uniq hb'
    have hne : er ≠ 0 := by
      obtain ⟨l, -, hb⟩ := hb
      rcases hb with ⟨-, h⟩ | ⟨-, -, h⟩
      · exact h
      · omega
    exact .inl ⟨er, z, hne, q1, q2, gb_none g1 g2⟩
  · exact (hb.not hz ho').elim
  · exact (hb'.not hz' ho).elim
  · refine .inr ⟨gx, gr, q1, q2, v, v', l, l', ⟨gb_none g1 g2, hx.keep g2, hr, hf, fun k hk => Nat.le_trans g1.size (hf' k hk), fun k h1 h2 => ?_⟩, ho.sam _ _ _ ho'⟩
    have := hx.lt k h1
    have := hf' k h2
    omega
/-- opened from its own records: alike -/
theorem opens_again {w W W1 W2 : World} {gx gr : Nat} {v1 v2 : Value} {l1 l2 : List MkX} {e : Ending} (h : PlD w W gx gr v1 v2 l1 l2) (hs : SamM l1 l2) (hg : W.grownBy W1 none) (hO : OpP W1 (recsL l1) e W2) :
    ∃ gy, e = .returned (.tuple #[.pointer (some ⟨gy, 0, none⟩), .int .i64 0, .int .i64 0]) ∧ Stp w W2 gy gr := by
  have hr : ∀ x ∈ l1, rightM x.1 = 0 := fun x hx => (h.a.each x hx).2
  have hl : (recsL l1).length = l1.length := by unfold recsL; rw [List.length_map]
  rcases hO with ⟨z, er, hz, hb, -⟩ | ⟨gy, v, l, q1, ho, hx, hf, g1⟩
  · exact (opBad_back h.a.ris hr h.a.len (by omega) hb).elim
  · have hi := opT_back h.a.ris hr l1.length l (Nat.le_refl _) (by rw [← hl]; exact ho)
    rw [List.take_length] at hi
    have hgg := gb_none hg g1
    refine ⟨gy, q1, v, v2, l, l2, ⟨gb_none h.gb hgg, hx, h.b.keep hgg, fun k hk => Nat.le_trans h.gb.size (Nat.le_trans hg.size (hf k hk)), h.fb, fun k q1 q2 => ?_⟩, hi.trans hs⟩
    have := hf k q1
    have := h.b.lt k q2
    have := hg.size
    omega
theorem recS_len {m : MkR} (hR : rightM m = 0) : (recS m).length ≤ 1000000000000000000 := by
  have hrec : recS m = recB m := by unfold recS; rw [if_pos hR]
  have := ouB_len hR 2
  have e : ouB m 2 = recB m := rfl
  rw [e] at this
  rw [hrec]
  omega
theorem BbW.rd {W : World} {v : Value} {bss : List (List UInt8)} (h : BbW W v bss) (hl : ∀ bs ∈ bss, bs.length ≤ 1000000000000000000) : RdBB W v bss := by
  obtain ⟨b, h⟩ := h
  rcases Nat.eq_zero_or_pos bss.length with h0 | h0
  · obtain ⟨a, c, e⟩ := h.shape
    exact ⟨a, c, e, by omega, fun j hj => by omega⟩
  · obtain ⟨g, c, x, y, z, e, -, -⟩ := h.at h0
    have hc : bss.length ≤ c := by
      obtain ⟨vs, q1, q2, q3⟩ := h
      rcases q1.2 with ⟨q, -⟩ | ⟨g', cap, cur, q, -, -, hnc, -⟩
      · rw [e] at q
        simp at q
      · rw [e] at q
        simp only [Value.slice.injEq] at q
        omega
    refine ⟨some ⟨g, 0, none⟩, c, e, hc, fun j hj => ?_⟩
    obtain ⟨g', c', x', y', z', e', d, r⟩ := h.at hj
    rw [e] at e'
    simp only [Value.slice.injEq] at e'
    refine ⟨g, 0, x', y', z', rfl, ?_, r, hl _ (by simp [List.getD, hj])⟩
    rw [Nat.zero_add]
    have : g = g' := by simpa using e'.1
    rw [this]
    exact d
/-- the log's own records -/
theorem Stp.records {w W : World} {gx gr : Nat} (h : Stp w W gx gr) (hT : U8S w) :
    Calls Tryz.prog 9 #[.pointer (some ⟨gx, 0, none⟩)] W fun e w' => ∃ a n c, e = .returned (.slice a n c) ∧ Hid (Calls Tryz.prog 4 #[.slice a n c] w' fun e2 w2 => ∃ gy, e2 = .returned (.tuple #[.pointer (some ⟨gy, 0, none⟩), .int .i64 0, .int .i64 0]) ∧ Hid (Stp w w2 gy gr)) := by
  obtain ⟨v1, v2, l1, l2, hp, hs⟩ := h
  refine (recordsX_any W gx v1 l1 hp.a (hT.keep hp.gb)).mono ?_
  rintro e w' ⟨v', q1, q2, q3⟩
  obtain ⟨a, c, ev⟩ := q2.shape
  subst ev
  refine ⟨a, _, c, q1, ?_⟩
  have hl : (recsL l1).length ≤ 500 := by unfold recsL; rw [List.length_map]; exact hp.a.len
  have hrb : RdBB w' (.slice a (recsL l1).length c) (recsL l1) := BbW.rd ⟨_, q2⟩ fun bs hb => by
    unfold recsL at hb
    obtain ⟨x, hx, rfl⟩ := List.mem_map.1 hb
    exact recS_len (hp.a.each x hx).2
  exact (openX_any w' _ _ hrb (by omega) (hT.keep (gb_none hp.gb q3))).mono fun e2 w2 h2 => opens_again hp hs q3 h2
theorem RdBB.cut {W : World} {a : Option Addr} {n c : Nat} {bss : List (List UInt8)} (h : RdBB W (.slice a n c) bss) (hn : 700 ≤ n) : RdBB W (.slice a 700 c) (bss.take 700) := by
  obtain ⟨a', c', e, hc, hr⟩ := h
  simp only [Value.slice.injEq] at e
  obtain ⟨rfl, rfl, rfl⟩ := e
  have e1 : (bss.take 700).length = 700 := by simp; omega
  refine ⟨a, c, by rw [e1], by omega, fun j hj => ?_⟩
  have e2 : (bss.take 700).getD j [] = bss.getD j [] := by simp [List.getD, show j < 700 by omega]
  rw [e2]
  exact hr j (by omega)
theorem run_cut26 (a : Option Addr) (n c : Nat) (hn : 700 < n) (hc : n ≤ c) (ha : ∃ b o, a = some ⟨b, o, none⟩) (W : World) : (Instr.slice 22 (.slice a n c) none (some (.int .i64 700)) none).run Tryz.prog W = .ok (.slice a 700 c) W := by
  obtain ⟨b, o, rfl⟩ := ha
  have ht' : Tryz.prog.underlying 22 = some (.slice (Tryz.prog.elem 22)) := by simp [Program.elem, Tryz.underlying22]
  have he : Tryz.prog.elem 22 = 42 := by simp [Program.elem, Tryz.underlying22]
  rw [run_slice_h W _ _ _ _ ht' .i64 _ (by omega) (by omega), he, Tryz.sizeOf42]
  simp [Result.andThen, sliced, Addr.add]
theorem OpP.gb {w w' : World} {bss : List (List UInt8)} {e : Ending} (h : OpP w bss e w') : w.grownBy w' none := by
  rcases h with ⟨z, er, hz, hb, q1, g1⟩ | ⟨gx, v, l, q1, ho, hx, hf, g1⟩
  · exact g1
  · exact g1
theorem tup3_inj {p q : Option Addr} {a b c d : Int} (h : Ending.returned (.tuple #[.pointer p, .int .i64 a, .int .i64 b]) = .returned (.tuple #[.pointer q, .int .i64 c, .int .i64 d])) : p = q ∧ a = c ∧ b = d := by
  simpa using h
theorem OpP.shape {w w' : World} {bss : List (List UInt8)} {e : Ending} (h : OpP w bss e w') : ∃ p er at_, e = .returned (.tuple #[.pointer p, .int .i64 er, .int .i64 at_]) := by
  rcases h with ⟨z, er, hz, hb, q1, g1⟩ | ⟨gx, v, l, q1, ho, hx, hf, g1⟩
  · exact ⟨_, _, _, q1⟩
  · exact ⟨_, _, _, q1⟩
theorem OpR.shape {w w' : World} {bss : List (List UInt8)} {e : Ending} (h : OpR w bss e w') : ∃ p er at_, e = .returned (.tuple #[.pointer p, .int .i64 er, .int .i64 at_]) := by
  rcases h with ⟨z, er, hz, hb, q1, g1⟩ | ⟨gx, v, l, q1, ho, hx, hf, g1⟩
  · exact ⟨_, _, _, q1⟩
  · exact ⟨_, _, _, q1⟩

set_option maxRecDepth 8000 in
set_option maxHeartbeats 25600000 in
theorem nfOpens_walk (w : World) (v u : Value) (bss : List (List UInt8)) (l : List OpX) (h : RdBB w v bss) (hln : bss.length ≤ 1000000000000000000) (ho : RdN w u l) (hT : U8S w) :
    Calls Tryz.prog 3 #[v, u] w fun e w' => e = .returned (.bool true) ∧ Below w.heap.size w w' := by
  obtain ⟨va, vc, ev, hvc, hv0⟩ := id h
  have hva : 700 < bss.length → ∃ b o, va = some ⟨b, o, none⟩ := fun hn => by
    obtain ⟨b, o, x, y, z, e, -⟩ := hv0 0 (by omega)
    exact ⟨b, o, e⟩
  subst ev
  obtain ⟨oa, oc, rfl, hmax, hrd⟩ := ho
  have HT := hidJ hT
  have HR := hidJ hrd
  have HAw : Hid (∀ W, w.grownBy W none → Calls Tryz.prog 6 #[] W fun e w' => e = .returned (.bool true) ∧ W.grownBy w' none) := fun W hW => awakeN_any W (HT.out.keep hW)
  have HOx : ∀ (u : Value) (bs : List (List UInt8)), RdBB w u bs → bs.length ≤ 1000000000000000000 → Hid (Calls Tryz.prog 4 #[u] w fun e w' => ∃ p er at_, e = .returned (.tuple #[.pointer p, .int .i64 er, .int .i64 at_]) ∧ Hid (OpP w bs (.returned (.tuple #[.pointer p, .int .i64 er, .int .i64 at_])) w' ∧ w.grownBy w' none)) := fun u bs hu hl => (openX_any w u bs hu hl HT.out).mono fun e w' q => by
    obtain ⟨p, er, at_, e1⟩ := q.shape
    subst e1
    exact ⟨p, er, at_, rfl, q, q.gb⟩
  have HOr : ∀ (u : Value) (bs : List (List UInt8)), RdBB w u bs → bs.length ≤ 1000000000000000000 → Hid (∀ w1, w.grownBy w1 none → Calls Tryz.prog 5 #[u] w1 fun e w' => ∃ p er at_, e = .returned (.tuple #[.pointer p, .int .i64 er, .int .i64 at_]) ∧ Hid (OpR w1 bs (.returned (.tuple #[.pointer p, .int .i64 er, .int .i64 at_])) w')) := fun u bs hu hl w1 hw1 => (refOpen_any w1 u bs (hu.keep hw1) hl).mono fun e w' q => by
    obtain ⟨p, er, at_, e1⟩ := q.shape
    subst e1
    exact ⟨p, er, at_, rfl, q⟩
  clear hrd hT
  by_cases h7 : 700 < bss.length
  · have HO1 := HOx _ _ (h.cut (by omega)) (by rw [List.length_take]; omega)
    have HO2 := HOr _ _ (h.cut (by omega)) (by rw [List.length_take]; omega)
    have hsl : ∀ W, (Instr.slice 22 (.slice va bss.length vc) none (some (.int .i64 700)) none).run Tryz.prog W = .ok (.slice va 700 vc) W := run_cut26 va bss.length vc h7 hvc (hva h7)
    clear HOx HOr h hva hv0
    generalize bss.take 700 = bs at *
    generalize bss.length = n at *
    generalize l.length = on at *
    have h7i : (700 : Int) < (n : Int) := by omega
    go_enter Tryz.func3, Tryz.ntmps3
    go_wp2_with fail
    clear hsl
    refine HO1.out.mono ?_
    rintro e w1 ⟨p1, er1, at1, rfl, H1⟩
    clear HO1
    go_wp2_with fail
    refine (HO2.out _ H1.out.2).mono ?_
    rintro e w2 ⟨p2, er2, at2, rfl, H2⟩
    clear HO2
    rcases opens_both H1.out.1 H2.out with ⟨er, at_, hne, q1, q2, hg⟩ | ⟨gx, gr, q1, q2, hs⟩
    · obtain ⟨rfl, a2, a3⟩ := tup3_inj q1
      obtain ⟨rfl, b2, b3⟩ := tup3_inj q2
      have a2 := a2.symm
      have a3 := a3.symm
      have b2 := b2.symm
      have b3 := b3.symm
      subst a2
      subst a3
      subst b2
      subst b3
      have HG := hidJ hg
      have n0 : (er == 0) = false := by simp [hne]
      have n1 : (er == er) = true := by simp
      have n2 : (at_ == at_) = true := by simp
      clear q1 q2 H1 H2 hne hg HR
      go_wp2_with fail
      refine (HAw.out _ HG.out).mono ?_
      rintro e w9 ⟨rfl, g9⟩
      have H9 := hidJ (gb_below (gb_none HG.out g9))
      clear HAw HG g9
      go_wp2
      go_ret
      exact ⟨rfl, H9.out⟩
    · obtain ⟨rfl, rfl, rfl⟩ := tup3_inj q1
      obtain ⟨rfl, rfl, rfl⟩ := tup3_inj q2
      have HS := hidJ hs
      clear q1 q2 H1 H2 hs
      as_aux_lemma =>
      go_wp2_with fail
      go_loopw [53] (fun i wr => ∃ z : Nat, z ≤ on ∧ i = .int .i64 z ∧ Hid (Stp w wr gx gr)) (fun i _ => on - (intOf i).toNat)
      case atStart => exact ⟨0, by omega, rfl, HS.out⟩
      case round =>
        obtain ⟨z, hzN, rfl, hr⟩ := hrel
        clear HS
        by_cases hzl : z < on
        · have hzi : (z : Int) < (on : Int) := by omega
          obtain ⟨b, o, rfl, d0, d1, d2, d3, d4, d5, d6, d7, hm, lf, ls⟩ := HR.out z hzl
          clear HR
          generalize l.getD z oZ = x at *
          obtain ⟨⟨kd, nw, nn, m⟩, f, s⟩ := x
          dsimp only at d0 d1 d2 d3 d4 d5 d6 d7 hm lf ls
          have HSt : Hid (∀ W, Stp w W gx gr → Calls Tryz.prog 7 #[.pointer (some ⟨gx, 0, none⟩), .pointer (some ⟨gr, 0, none⟩), .agg #[.int .i64 kd, .string (ByteArray.mk ⟨m.rcv⟩), .string (ByteArray.mk ⟨m.key⟩), .int .i64 m.tim, f, s, .int .i64 nw, .int .i64 nn]] W fun e w' => e = .returned (.bool true) ∧ Hid (Stp w w' gx gr)) := fun W hW => step_any w W gx gr kd nw nn m f s hW hm lf ls HT.out
          obtain ⟨fa, fc, ef, -⟩ := hm.fir.shape
          obtain ⟨sa, sc, es, -⟩ := hm.res.shape
          subst ef es
          have kc : ∀ {i : Nat} {u : Value}, w.cell? ⟨b, i, none⟩ = some u → wr.cell? ⟨b, i, none⟩ = some u := fun h => (World.cell?_of_block (hr.out.gb.block _ (block_lt h) (by simp))).trans h
          replace d0 := kc d0
          replace d1 := kc d1
          replace d2 := kc d2
          replace d3 := kc d3
          replace d4 := kc d4
          replace d5 := kc d5
          replace d6 := kc d6
          replace d7 := kc d7
          clear hm lf ls kc
          generalize m.fir.length = nf at *
          generalize m.res.length = ns at *
          generalize ByteArray.mk ⟨m.rcv⟩ = br at *
          generalize ByteArray.mk ⟨m.key⟩ = bk at *
          generalize m.tim = tm at *
          have hal := World.grownBy_alloc wr (.cells #[.int .i64 kd, .string br, .string bk, .int .i64 tm, .slice fa nf fc, .slice sa ns sc, .int .i64 nw, .int .i64 nn] 36) none
          have hb8 : B8 (wr.alloc (.cells #[.int .i64 kd, .string br, .string bk, .int .i64 tm, .slice fa nf fc, .slice sa ns sc, .int .i64 nw, .int .i64 nn] 36)) wr.heap.size 36 (.int .i64 kd) (.string br) (.string bk) (.int .i64 tm) (.slice fa nf fc) (.slice sa ns sc) (.int .i64 nw) (.int .i64 nn) := Go.heap_alloc_new wr _
          replace hr := hidJ (hr.out.keep hal)
          by_cases h20 : (20 : Int) ≤ (z : Int)
          · clear HSt hb8 hal
            go_wp2_with fail
            refine (hr.out.whole HT.out).mono ?_
            rintro e w5 ⟨rfl, g5⟩
            have H5 := hidJ (hr.out.keep g5)
            clear hr g5
            go_wp2_with fail
            refine (H5.out.records HT.out).mono ?_
            rintro e w6 ⟨a6, n6, c6, rfl, H6⟩
            clear H5
            go_wp2_with fail
            refine H6.out.mono ?_
            rintro e w7 ⟨gy, rfl, H7⟩
            clear H6
            go_wp2_with fail
            refine (H7.out.whole HT.out).mono ?_
            rintro e w8 ⟨rfl, g8⟩
            have H8 := hidJ (gb_none H7.out.gb g8)
            clear H7 g8
            go_wp2_with fail
            refine (HAw.out _ H8.out).mono ?_
            rintro e w9 ⟨rfl, g9⟩
            have H9 := hidJ (gb_below (gb_none H8.out g9))
            clear HAw H8 g9
            go_wp2
            go_ret
            exact ⟨rfl, H9.out⟩
          · obtain ⟨e0, e1, e2, e3, e4, e5, e6, e7⟩ := hb8.cells
            clear hal hb8
            go_wp2_with fail
            refine (HSt.out _ hr.out).mono ?_
            rintro e w4 ⟨rfl, H4⟩
            clear HSt hr d0 d1 d2 d3 d4 d5 d6 d7 e0 e1 e2 e3 e4 e5 e6 e7
            go_wp2
            go_roundw
            case rel => exact ⟨z + 1, by omega, by first | rfl | go_num, H4.out⟩
            case measure => simp [intOf]; omega
        · have hzi : ¬ (z : Int) < (on : Int) := by omega
          clear HR
          go_wp2_with fail
          refine (hr.out.whole HT.out).mono ?_
          rintro e w5 ⟨rfl, g5⟩
          have H5 := hidJ (hr.out.keep g5)
          clear hr g5
          go_wp2_with fail
          refine (H5.out.records HT.out).mono ?_
          rintro e w6 ⟨a6, n6, c6, rfl, H6⟩
          clear H5
          go_wp2_with fail
          refine H6.out.mono ?_
          rintro e w7 ⟨gy, rfl, H7⟩
          clear H6
          go_wp2_with fail
          refine (H7.out.whole HT.out).mono ?_
          rintro e w8 ⟨rfl, g8⟩
          have H8 := hidJ (gb_none H7.out.gb g8)
          clear H7 g8
          go_wp2_with fail
          refine (HAw.out _ H8.out).mono ?_
          rintro e w9 ⟨rfl, g9⟩
          have H9 := hidJ (gb_below (gb_none H8.out g9))
          clear HAw H8 g9
          go_wp2
          go_ret
          exact ⟨rfl, H9.out⟩
  · have HO1 := HOx _ _ h (by omega)
    have HO2 := HOr _ _ h (by omega)
    clear HOx HOr h hva hv0
    generalize bss.length = n at *
    generalize l.length = on at *
    have h7i : ¬ (700 : Int) < (n : Int) := by omega
    go_enter Tryz.func3, Tryz.ntmps3
    go_wp2_with fail
    refine HO1.out.mono ?_
    rintro e w1 ⟨p1, er1, at1, rfl, H1⟩
    clear HO1
    go_wp2_with fail
    refine (HO2.out _ H1.out.2).mono ?_
    rintro e w2 ⟨p2, er2, at2, rfl, H2⟩
    clear HO2
    rcases opens_both H1.out.1 H2.out with ⟨er, at_, hne, q1, q2, hg⟩ | ⟨gx, gr, q1, q2, hs⟩
    · obtain ⟨rfl, a2, a3⟩ := tup3_inj q1
      obtain ⟨rfl, b2, b3⟩ := tup3_inj q2
      have a2 := a2.symm
      have a3 := a3.symm
      have b2 := b2.symm
      have b3 := b3.symm
      subst a2
      subst a3
      subst b2
      subst b3
      have HG := hidJ hg
      have n0 : (er == 0) = false := by simp [hne]
      have n1 : (er == er) = true := by simp
      have n2 : (at_ == at_) = true := by simp
      clear q1 q2 H1 H2 hne hg HR
      go_wp2_with fail
      refine (HAw.out _ HG.out).mono ?_
      rintro e w9 ⟨rfl, g9⟩
      have H9 := hidJ (gb_below (gb_none HG.out g9))
      clear HAw HG g9
      go_wp2
      go_ret
      exact ⟨rfl, H9.out⟩
    · obtain ⟨rfl, rfl, rfl⟩ := tup3_inj q1
      obtain ⟨rfl, rfl, rfl⟩ := tup3_inj q2
      have HS := hidJ hs
      clear q1 q2 H1 H2 hs
      as_aux_lemma =>
      go_wp2_with fail
      go_loopw [53] (fun i wr => ∃ z : Nat, z ≤ on ∧ i = .int .i64 z ∧ Hid (Stp w wr gx gr)) (fun i _ => on - (intOf i).toNat)
      case atStart => exact ⟨0, by omega, rfl, HS.out⟩
      case round =>
        obtain ⟨z, hzN, rfl, hr⟩ := hrel
        clear HS
        by_cases hzl : z < on
        · have hzi : (z : Int) < (on : Int) := by omega
          obtain ⟨b, o, rfl, d0, d1, d2, d3, d4, d5, d6, d7, hm, lf, ls⟩ := HR.out z hzl
          clear HR
          generalize l.getD z oZ = x at *
          obtain ⟨⟨kd, nw, nn, m⟩, f, s⟩ := x
          dsimp only at d0 d1 d2 d3 d4 d5 d6 d7 hm lf ls
          have HSt : Hid (∀ W, Stp w W gx gr → Calls Tryz.prog 7 #[.pointer (some ⟨gx, 0, none⟩), .pointer (some ⟨gr, 0, none⟩), .agg #[.int .i64 kd, .string (ByteArray.mk ⟨m.rcv⟩), .string (ByteArray.mk ⟨m.key⟩), .int .i64 m.tim, f, s, .int .i64 nw, .int .i64 nn]] W fun e w' => e = .returned (.bool true) ∧ Hid (Stp w w' gx gr)) := fun W hW => step_any w W gx gr kd nw nn m f s hW hm lf ls HT.out
          obtain ⟨fa, fc, ef, -⟩ := hm.fir.shape
          obtain ⟨sa, sc, es, -⟩ := hm.res.shape
          subst ef es
          have kc : ∀ {i : Nat} {u : Value}, w.cell? ⟨b, i, none⟩ = some u → wr.cell? ⟨b, i, none⟩ = some u := fun h => (World.cell?_of_block (hr.out.gb.block _ (block_lt h) (by simp))).trans h
          replace d0 := kc d0
          replace d1 := kc d1
          replace d2 := kc d2
          replace d3 := kc d3
          replace d4 := kc d4
          replace d5 := kc d5
          replace d6 := kc d6
          replace d7 := kc d7
          clear hm lf ls kc
          generalize m.fir.length = nf at *
          generalize m.res.length = ns at *
          generalize ByteArray.mk ⟨m.rcv⟩ = br at *
          generalize ByteArray.mk ⟨m.key⟩ = bk at *
          generalize m.tim = tm at *
          have hal := World.grownBy_alloc wr (.cells #[.int .i64 kd, .string br, .string bk, .int .i64 tm, .slice fa nf fc, .slice sa ns sc, .int .i64 nw, .int .i64 nn] 36) none
          have hb8 : B8 (wr.alloc (.cells #[.int .i64 kd, .string br, .string bk, .int .i64 tm, .slice fa nf fc, .slice sa ns sc, .int .i64 nw, .int .i64 nn] 36)) wr.heap.size 36 (.int .i64 kd) (.string br) (.string bk) (.int .i64 tm) (.slice fa nf fc) (.slice sa ns sc) (.int .i64 nw) (.int .i64 nn) := Go.heap_alloc_new wr _
          replace hr := hidJ (hr.out.keep hal)
          by_cases h20 : (20 : Int) ≤ (z : Int)
          · clear HSt hb8 hal
            go_wp2_with fail
            refine (hr.out.whole HT.out).mono ?_
            rintro e w5 ⟨rfl, g5⟩
            have H5 := hidJ (hr.out.keep g5)
            clear hr g5
            go_wp2_with fail
            refine (H5.out.records HT.out).mono ?_
            rintro e w6 ⟨a6, n6, c6, rfl, H6⟩
            clear H5
            go_wp2_with fail
            refine H6.out.mono ?_
            rintro e w7 ⟨gy, rfl, H7⟩
            clear H6
            go_wp2_with fail
            refine (H7.out.whole HT.out).mono ?_
            rintro e w8 ⟨rfl, g8⟩
            have H8 := hidJ (gb_none H7.out.gb g8)
            clear H7 g8
            go_wp2_with fail
            refine (HAw.out _ H8.out).mono ?_
            rintro e w9 ⟨rfl, g9⟩
            have H9 := hidJ (gb_below (gb_none H8.out g9))
            clear HAw H8 g9
            go_wp2
            go_ret
            exact ⟨rfl, H9.out⟩
          · obtain ⟨e0, e1, e2, e3, e4, e5, e6, e7⟩ := hb8.cells
            clear hal hb8
            go_wp2_with fail
            refine (HSt.out _ hr.out).mono ?_
            rintro e w4 ⟨rfl, H4⟩
            clear HSt hr d0 d1 d2 d3 d4 d5 d6 d7 e0 e1 e2 e3 e4 e5 e6 e7
            go_wp2
            go_roundw
            case rel => exact ⟨z + 1, by omega, by first | rfl | go_num, H4.out⟩
            case measure => simp [intOf]; omega
        · have hzi : ¬ (z : Int) < (on : Int) := by omega
          clear HR
          go_wp2_with fail
          refine (hr.out.whole HT.out).mono ?_
          rintro e w5 ⟨rfl, g5⟩
          have H5 := hidJ (hr.out.keep g5)
          clear hr g5
          go_wp2_with fail
          refine (H5.out.records HT.out).mono ?_
          rintro e w6 ⟨a6, n6, c6, rfl, H6⟩
          clear H5
          go_wp2_with fail
          refine H6.out.mono ?_
          rintro e w7 ⟨gy, rfl, H7⟩
          clear H6
          go_wp2_with fail
          refine (H7.out.whole HT.out).mono ?_
          rintro e w8 ⟨rfl, g8⟩
          have H8 := hidJ (gb_none H7.out.gb g8)
          clear H7 g8
          go_wp2_with fail
          refine (HAw.out _ H8.out).mono ?_
          rintro e w9 ⟨rfl, g9⟩
          have H9 := hidJ (gb_below (gb_none H8.out g9))
          clear HAw H8 g9
          go_wp2
          go_ret
          exact ⟨rfl, H9.out⟩
end Go.Proofs.YtpglhdnepmcahaaGreatDoor
