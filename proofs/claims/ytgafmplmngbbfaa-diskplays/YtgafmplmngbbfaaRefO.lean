/-
  The document's own disk: a row of files, rising by name: words and frames; where a name stands: the walk.
-/
import Derived.Test.YtgafmplmngbbfaaRefG
namespace Go.Proofs.Ytgafmplmngbbfaa
open Go.RowKit Go.Maps Go.WideMaps

structure RF where
  name : Bs
  val : Value
  bytes : Bs
  synced : Nat
def rfZ : RF := ⟨[], .slice none 0 0, [], 0⟩
def rfc (r : RF) : List Value := [.string (ByteArray.mk ⟨r.name⟩), r.val, .int .i64 (r.synced : Int)]
def rff (rs : List RF) : List Value := rs.flatMap rfc
theorem rff_len (rs : List RF) : (rff rs).length = rs.length * 3 := by
  induction rs with
  | nil => rfl
  | cons o rs ih =>
    have : rff (o :: rs) = rfc o ++ rff rs := rfl
    rw [this, List.length_append, ih]
    simp [rfc]
    omega
theorem rff_append (a b : List RF) : rff (a ++ b) = rff a ++ rff b := by simp [rff]
theorem rff_get (rs : List RF) : ∀ j f, j < rs.length → f < 3 → (rff rs)[j * 3 + f]? = (rfc (rs.getD j rfZ))[f]? := by
  induction rs with
  | nil => intro j f hj; simp at hj
  | cons o rs ih =>
    intro j f hj hf
    have e : rff (o :: rs) = rfc o ++ rff rs := rfl
    have hl : (rfc o).length = 3 := rfl
    rw [e]
    cases j with
    | zero =>
      rw [Nat.zero_mul, Nat.zero_add, List.getElem?_append_left (by omega)]
      rfl
    | succ j =>
      rw [List.getElem?_append_right (by omega), hl]
      have e2 : (j + 1) * 3 + f - 3 = j * 3 + f := by omega
      rw [e2, ih j f (by simpa using hj) hf]
      rfl
theorem rff_take (rs : List RF) (k : Nat) : (rff rs).take (k * 3) = rff (rs.take k) := by
  have h : rff rs = rff (rs.take k) ++ rff (rs.drop k) := by rw [← rff_append, List.take_append_drop]
  by_cases hk : k ≤ rs.length
  · rw [h, List.take_append_of_le_length (by rw [rff_len, List.length_take]; omega), List.take_of_length_le (by rw [rff_len, List.length_take]; omega)]
  · rw [List.take_of_length_le (by rw [rff_len]; omega), List.take_of_length_le (l := rs) (by omega)]
theorem rff_drop (rs : List RF) (k : Nat) (hk : k ≤ rs.length) : (rff rs).drop (k * 3) = rff (rs.drop k) := by
  have h : rff rs = rff (rs.take k) ++ rff (rs.drop k) := by rw [← rff_append, List.take_append_drop]
  have hl : (rff (rs.take k)).length = k * 3 := by rw [rff_len, List.length_take]; omega
  rw [h, ← hl, List.drop_left]

/-- bytes in blocks of S that hold bytes alone -/
def Rb (w : World) (S : Nat → Prop) (v : Value) (l : Bs) : Prop := Rd w v l ∧ ∀ k, v.ownBlock = some k → S k ∧ ∃ cur fr, w.heap[k]? = some (.cells cur 5 fr)
theorem Rb.frame {w w' : World} {S T : Nat → Prop} {v : Value} {l : Bs} (h : Rb w S v l) (hc : Ch w w' T) (hT : ∀ k, k < w.heap.size → S k → ¬ T k) : Rb w' S v l := by
  refine ⟨h.1.ch hc (fun k hk hlt => hT k hlt (h.2 k hk).1), fun k hk => ⟨(h.2 k hk).1, ?_⟩⟩
  obtain ⟨cur, fr, hb⟩ := (h.2 k hk).2
  exact ⟨cur, fr, by rw [hc.block (some_lt hb) (hT k (some_lt hb) (h.2 k hk).1)]; exact hb⟩
theorem Rb.mono {w : World} {S T : Nat → Prop} {v : Value} {l : Bs} (h : Rb w S v l) (hT : ∀ k, k < w.heap.size → S k → T k) : Rb w T v l :=
  ⟨h.1, fun k hk => ⟨by obtain ⟨cur, fr, hb⟩ := (h.2 k hk).2; exact hT k (some_lt hb) (h.2 k hk).1, (h.2 k hk).2⟩⟩
theorem Rb.one {w : World} {S : Nat → Prop} {v : Value} {l : Bs} (h : Rb w S v l) : v.oneCell' = true := by
  obtain ⟨⟨a, c, rfl, _⟩, _⟩ := h
  rfl
theorem Rb.nil (w : World) (S : Nat → Prop) : Rb w S (.slice none 0 0) [] := ⟨Rd.nil w, fun k hk => by simp [Value.ownBlock] at hk⟩
theorem Own.rb {w : World} {base : Nat} {v : Value} {l : Bs} {S : Nat → Prop} (h : Own w base v l) (hS : ∀ k, v.ownBlock = some k → S k) : Rb w S v l :=
  ⟨h.rd, fun k hk => ⟨hS k hk, by obtain ⟨cur, hc⟩ := h.obj hk; exact ⟨cur, _, hc⟩⟩⟩

/-- THE DOCUMENT's DISK: its box gr, its row v of files rs; all in blocks of S -/
structure RefW (w : World) (S : Nat → Prop) (gr : Nat) (v : Value) (rs : List RF) : Prop where
  box : w.heap[gr]? = some (.cells #[v] 28)
  row : w.ownsRow 0 56 3 v rs.length (rff rs)
  inB : S gr
  inR : ∀ k, v.ownBlock = some k → S k
  each : ∀ r ∈ rs, Rb w S r.val r.bytes
  fits : ∀ r ∈ rs, nameOk r.name = true ∧ r.synced ≤ r.bytes.length ∧ r.bytes.length ≤ 1048576
  srt : rs.Pairwise (fun a b => a.name < b.name)
  most : rs.length ≤ 256
def lkR (rs : List RF) (l : Bs) : Option (Bs × Nat) := (rs.find? (fun r => r.name == l)).map (fun r => (r.bytes, r.synced))
def RefOK (w : World) (S : Nat → Prop) (gr : Nat) (M : Fls) (N : Nat) : Prop := ∃ v rs, RefW w S gr v rs ∧ (∀ l, M l = lkR rs l) ∧ rs.length = N

theorem RefW.row_obj {w : World} {S : Nat → Prop} {gr : Nat} {v : Value} {rs : List RF} (h : RefW w S gr v rs) {k : Nat} (hk : v.ownBlock = some k) : ∃ cur, w.heap[k]? = some (.cells cur 56 (0, 0)) := by
  rcases h.row.2 with ⟨rfl, _⟩ | ⟨g, cap, cur, rfl, hb, hgg, rest⟩
  · simp [Value.ownBlock] at hk
  · simp only [Value.ownBlock, Option.some.injEq] at hk
    subst hk
    exact ⟨cur, hgg⟩
theorem RefW.ne_row {w : World} {S : Nat → Prop} {gr : Nat} {v : Value} {rs : List RF} (h : RefW w S gr v rs) : v.ownBlock ≠ some gr := by
  intro e
  obtain ⟨cur, hc⟩ := h.row_obj e
  rw [h.box] at hc
  simp at hc
theorem RefW.ne_val {w : World} {S : Nat → Prop} {gr : Nat} {v : Value} {rs : List RF} (h : RefW w S gr v rs) {r : RF} (hr : r ∈ rs) : r.val.ownBlock ≠ some gr ∧ ∀ k, v.ownBlock = some k → r.val.ownBlock ≠ some k := by
  refine ⟨fun e => ?_, fun k hk e => ?_⟩
  · obtain ⟨cur, fr, hc⟩ := ((h.each r hr).2 gr e).2
    rw [h.box] at hc
    simp at hc
  · obtain ⟨cur, fr, hc⟩ := ((h.each r hr).2 k e).2
    obtain ⟨cur', hc'⟩ := h.row_obj hk
    rw [hc'] at hc
    simp at hc
theorem row_via {w w' : World} {E : TypeId} {size base n : Nat} {v : Value} {xs : List Value} (h : w.ownsRow base E size v n xs) (hk : ∀ k, v.ownBlock = some k → w'.heap[k]? = w.heap[k]?) : w'.ownsRow base E size v n xs := by
  refine ⟨h.1, ?_⟩
  rcases h.2 with hn | ⟨g, cap, cur, rfl, hb, hgg, rest⟩
  · exact .inl hn
  · exact .inr ⟨g, cap, cur, rfl, hb, by rw [hk g rfl]; exact hgg, rest⟩
theorem RefW.frame {w w' : World} {S T : Nat → Prop} {gr : Nat} {v : Value} {rs : List RF} (h : RefW w S gr v rs) (hc : Ch w w' T) (hT : ∀ k, k < w.heap.size → S k → ¬ T k) : RefW w' S gr v rs where
  box := by rw [hc.block (some_lt h.box) (hT _ (some_lt h.box) h.inB)]; exact h.box
  row := row_via h.row (fun k hk => hc.block (h.row.lt k hk).2 (hT _ (h.row.lt k hk).2 (h.inR k hk)))
  inB := h.inB
  inR := h.inR
  each := fun r hr => (h.each r hr).frame hc hT
  fits := h.fits
  srt := h.srt
  most := h.most
theorem RefW.mono {w : World} {S T : Nat → Prop} {gr : Nat} {v : Value} {rs : List RF} (h : RefW w S gr v rs) (hT : ∀ k, k < w.heap.size → S k → T k) : RefW w T gr v rs :=
  { h with
    inB := hT _ (some_lt h.box) h.inB
    inR := fun k hk => hT _ (h.row.lt k hk).2 (h.inR k hk)
    each := fun r hr => (h.each r hr).mono hT }
theorem RefOK.frame {w w' : World} {S T : Nat → Prop} {gr N : Nat} {M : Fls} (h : RefOK w S gr M N) (hc : Ch w w' T) (hT : ∀ k, k < w.heap.size → S k → ¬ T k) : RefOK w' S gr M N := by
  obtain ⟨v, rs, h, r⟩ := h
  exact ⟨v, rs, h.frame hc hT, r⟩
theorem RefOK.keep {w w' : World} {S : Nat → Prop} {gr N : Nat} {M : Fls} (h : RefOK w S gr M N) (hg : w.grownBy w' none) : RefOK w' S gr M N :=
  h.frame (T := fun _ => False) (Ch.of_gb hg (fun k hk => by cases hk)) (fun _ _ _ => id)
theorem RefOK.mono {w : World} {S T : Nat → Prop} {gr N : Nat} {M : Fls} (h : RefOK w S gr M N) (hT : ∀ k, k < w.heap.size → S k → T k) : RefOK w T gr M N := by
  obtain ⟨v, rs, h, r⟩ := h
  exact ⟨v, rs, h.mono hT, r⟩
theorem RefOK.gr {w w' : World} {S : Nat → Prop} {gr N : Nat} {M : Fls} (h : RefOK w' S gr M N) : RefOK w' (Gr S w w') gr M N := h.mono (fun _ _ => Or.inl)

/-- the cells of a file in the row -/
theorem RefW.cells {w : World} {S : Nat → Prop} {gr : Nat} {v : Value} {rs : List RF} (h : RefW w S gr v rs) (hne : rs ≠ []) : ∃ g cap, v = .slice (some ⟨g, 0, none⟩) rs.length cap ∧ rs.length ≤ cap ∧ cap ≤ maxLen ∧ ∀ j, j < rs.length →
    w.cell? ⟨g, j * 3, none⟩ = some (.string (ByteArray.mk ⟨(rs.getD j rfZ).name⟩)) ∧ w.cell? ⟨g, j * 3 + 1, none⟩ = some (rs.getD j rfZ).val ∧ w.cell? ⟨g, j * 3 + 2, none⟩ = some (.int .i64 ((rs.getD j rfZ).synced : Int)) := by
  have h0 := h.row
  rcases h.row.2 with ⟨rfl, hn⟩ | ⟨g, cap, cur, rfl, hg, hh, hnc, hcm, hcs, ht⟩
  · exact absurd (List.eq_nil_of_length_eq_zero hn) hne
  · refine ⟨g, cap, rfl, hnc, hcm, fun j hj => ?_⟩
    have e : ∀ f, f < 3 → w.cell? ⟨g, j * 3 + f, none⟩ = (rfc (rs.getD j rfZ))[f]? := fun f hf => by
      rw [World.ownsRow.cellAt h0 (j * 3 + f) (by omega), rff_get rs j f hj hf]
    exact ⟨e 0 (by omega), e 1 (by omega), e 2 (by omega)⟩
theorem RefW.cells' {w : World} {S : Nat → Prop} {gr : Nat} {v : Value} {rs : List RF} (h : RefW w S gr v rs) (hne : v ≠ .slice none 0 0) : ∃ g cap, v = .slice (some ⟨g, 0, none⟩) rs.length cap ∧ rs.length ≤ cap ∧ cap ≤ maxLen ∧ g < w.heap.size ∧ ∀ j, j < rs.length →
    w.cell? ⟨g, j * 3, none⟩ = some (.string (ByteArray.mk ⟨(rs.getD j rfZ).name⟩)) ∧ w.cell? ⟨g, j * 3 + 1, none⟩ = some (rs.getD j rfZ).val ∧ w.cell? ⟨g, j * 3 + 2, none⟩ = some (.int .i64 ((rs.getD j rfZ).synced : Int)) := by
  have h0 := h.row
  rcases h.row.2 with ⟨rfl, hn⟩ | ⟨g, cap, cur, rfl, hg, hh, hnc, hcm, hcs, ht⟩
  · exact absurd rfl hne
  · refine ⟨g, cap, rfl, hnc, hcm, some_lt hh, fun j hj => ?_⟩
    have e : ∀ f, f < 3 → w.cell? ⟨g, j * 3 + f, none⟩ = (rfc (rs.getD j rfZ))[f]? := fun f hf => by
      rw [World.ownsRow.cellAt h0 (j * 3 + f) (by omega), rff_get rs j f hj hf]
    exact ⟨e 0 (by omega), e 1 (by omega), e 2 (by omega)⟩
theorem RefW.nil_row {w : World} {S : Nat → Prop} {gr : Nat} {rs : List RF} (h : RefW w S gr (.slice none 0 0) rs) : rs = [] := by
  rcases h.row.2 with ⟨-, hn⟩ | ⟨g, cap, cur, e, _⟩
  · exact List.eq_nil_of_length_eq_zero hn
  · cases e
theorem RefW.shape {w : World} {S : Nat → Prop} {gr : Nat} {v : Value} {rs : List RF} (h : RefW w S gr v rs) : ∃ a c, v = .slice a rs.length c ∧ rs.length ≤ c ∧ c ≤ maxLen := by
  rcases h.row.2 with ⟨rfl, hn⟩ | ⟨g, cap, cur, rfl, _, _, h1, h2, _⟩
  · exact ⟨none, 0, by rw [hn], by omega, by unfold maxLen; omega⟩
  · exact ⟨_, _, rfl, h1, h2⟩
theorem str_eq (a b : Bs) : ((ByteArray.mk ⟨a⟩).toList == (ByteArray.mk ⟨b⟩).toList) = decide (a = b) := by
  rw [ByteArray.toList_eq, ByteArray.toList_eq]
  rw [Bool.eq_iff_iff]
  simp
theorem getD_mem {rs : List RF} {j : Nat} (h : j < rs.length) : rs.getD j rfZ ∈ rs := by simp [h]
/-- where a name stands -/
def posR (rs : List RF) (l : Bs) : Int := match rs.findIdx? (fun r => r.name == l) with | some k => (k : Int) | none => -1
theorem posR_none {rs : List RF} {l : Bs} (h : ∀ j, j < rs.length → (rs.getD j rfZ).name ≠ l) : posR rs l = -1 := by
  have : rs.findIdx? (fun r => r.name == l) = none := by
    rw [List.findIdx?_eq_none_iff]
    intro x hx
    obtain ⟨j, hj, rfl⟩ := List.mem_iff_getElem.1 hx
    have := h j hj
    simp [hj] at this
    simpa using this
  simp [posR, this]
theorem posR_some {rs : List RF} {l : Bs} {k : Nat} (hk : k < rs.length) (h : ∀ j, j < k → (rs.getD j rfZ).name ≠ l) (he : (rs.getD k rfZ).name = l) : posR rs l = (k : Int) := by
  have : rs.findIdx? (fun r => r.name == l) = some k := by
    rw [List.findIdx?_eq_some_iff_getElem]
    refine ⟨hk, ?_, fun j hj => ?_⟩
    · simp [hk] at he
      simpa using he
    · have h1 : j < rs.length := by omega
      have := h j hj
      simp [h1] at this
      simpa using this
  simp [posR, this]

set_option maxRecDepth 8000 in
set_option maxHeartbeats 3200000 in
theorem at_any (w : World) (S : Nat → Prop) (gr : Nat) (v : Value) (rs : List RF) (l : Bs) (h : RefW w S gr v rs) :
    Calls Try.prog 49 #[.pointer (some ⟨gr, 0, none⟩), .string (ByteArray.mk ⟨l⟩)] w fun e w' => e = .returned (.int .i64 (posR rs l)) ∧ w' = w := by
  have HW : Hid (RefW w S gr v rs) := h
  have hbox : w.cell? ⟨gr, 0, none⟩ = some v := by simp [World.cell?, h.box]
  obtain ⟨a, c, rfl, hc1, hc2⟩ := h.shape
  have hm := h.most
  generalize hs : ByteArray.mk ⟨l⟩ = s
  have HS : Hid (ByteArray.mk ⟨l⟩ = s) := hs
  clear h hs hc1 hc2
  generalize hL : rs.length = L at *
  have HL : Hid (rs.length = L) := hL
  clear hL
  go_enter Try.func49, Try.ntmps49
  go_wp2
  go_loop [5] (fun i => ∃ k : Nat, k ≤ L ∧ i = .int .i64 (k : Int) ∧ Hid (∀ j, j < k → (rs.getD j rfZ).name ≠ l)) (fun i => L - (intOf i).toNat)
  case atStart => exact ⟨0, by omega, rfl, fun j hj => by omega⟩
  case round =>
    obtain ⟨k, hk, rfl, HR⟩ := hrel
    by_cases hkl : k < L
    · have hkl2 : (k : Int) < (L : Int) := by omega
      have hk' : k < rs.length := by rw [HL.out]; exact hkl
      obtain ⟨g, cap, hv, hcp, hcm, hcells⟩ := HW.out.cells (by intro e; rw [e] at hk'; simp at hk')
      have hv2 : a = some ⟨g, 0, none⟩ := by simp at hv; exact hv.1
      subst hv2
      obtain ⟨c0, c1, c2⟩ := hcells k hk'
      by_cases he : (rs.getD k rfZ).name = l
      · have HP : Hid (posR rs l = (k : Int)) := posR_some hk' HR.out he
        have hq : ∀ s', ByteArray.mk ⟨(rs.getD k rfZ).name⟩ = s' → (s'.toList == s.toList) = true := fun s' h => by rw [← h, ← HS.out, str_eq]; exact decide_eq_true he
        generalize hnk : ByteArray.mk ⟨(rs.getD k rfZ).name⟩ = sk at *
        have hq2 := hq sk rfl
        clear hq hcells he HR hv hnk c1 c2
        go_wp2
        go_ret
        exact ⟨ret_int HP.out.symm, rfl⟩
      · have HR2 : Hid (∀ j, j < k + 1 → (rs.getD j rfZ).name ≠ l) := fun j hj => by
          by_cases e : j = k
          · rw [e]; exact he
          · exact HR.out j (by omega)
        have hq : ∀ s', ByteArray.mk ⟨(rs.getD k rfZ).name⟩ = s' → (s'.toList == s.toList) = false := fun s' h => by rw [← h, ← HS.out, str_eq]; exact decide_eq_false he
        generalize hnk : ByteArray.mk ⟨(rs.getD k rfZ).name⟩ = sk at *
        have hq2 := hq sk rfl
        clear hq hcells he HR hv hnk c1 c2
        go_wp2
        go_round
        case rel => exact ⟨k + 1, by omega, by go_num, HR2⟩
        case measure => simp [intOf]; omega
    · have HP : Hid (posR rs l = -1) := posR_none (fun j hj => HR.out j (by rw [HL.out] at hj; omega))
      go_wp2
      go_ret
      exact ⟨ret_int HP.out.symm, rfl⟩
end Go.Proofs.Ytgafmplmngbbfaa
