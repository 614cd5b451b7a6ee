/-
  The document's files as a list: looking a name up, one more, one turned, one away; a store into the row. Plain facts.
-/
import Derived.Test.YtgafmplmngbbfaaRefP
namespace Go.Proofs.Ytgafmplmngbbfaa
open Go.RowKit Go.Maps Go.WideMaps

theorem lt_ne {a b : Bs} (h : a < b) : a ≠ b := fun e => List.lt_irrefl b (e ▸ h)
theorem find_no {rs : List RF} {l : Bs} (h : ∀ q ∈ rs, q.name ≠ l) : rs.find? (fun r => r.name == l) = none := by
  rw [List.find?_eq_none]
  intro q hq hq'
  exact h q hq (by simpa using hq')
theorem lkR_no {rs : List RF} {l : Bs} (h : ∀ q ∈ rs, q.name ≠ l) : lkR rs l = none := by simp [lkR, find_no h]
theorem lkR_mid {A B : List RF} {r : RF} (hs : (A ++ r :: B).Pairwise (fun a b => a.name < b.name)) (l : Bs) : lkR (A ++ r :: B) l = if l = r.name then some (r.bytes, r.synced) else lkR (A ++ B) l := by
  obtain ⟨h1, h2, h3⟩ := List.pairwise_append.1 hs
  by_cases e : l = r.name
  · subst e
    have hA : ∀ q ∈ A, q.name ≠ r.name := fun q hq => lt_ne (h3 q hq r List.mem_cons_self)
    simp [lkR, List.find?_append, find_no hA]
  · have hne : (r.name == l) = false := by simpa using fun h => e h.symm
    simp [lkR, List.find?_append, hne, e]
theorem mid_no {A B : List RF} {r : RF} (hs : (A ++ r :: B).Pairwise (fun a b => a.name < b.name)) : ∀ q ∈ A ++ B, q.name ≠ r.name := by
  obtain ⟨h1, h2, h3⟩ := List.pairwise_append.1 hs
  intro q hq
  rcases List.mem_append.1 hq with h | h
  · exact lt_ne (h3 q h r List.mem_cons_self)
  · exact fun e => lt_ne ((List.pairwise_cons.1 h2).1 q h) e.symm
theorem lkR_set {A B : List RF} {r r' : RF} (hs : (A ++ r :: B).Pairwise (fun a b => a.name < b.name)) (hn : r'.name = r.name) : (fun l => lkR (A ++ r' :: B) l) = upd (fun l => lkR (A ++ r :: B) l) r.name (some (r'.bytes, r'.synced)) := by
  have hs' : (A ++ r' :: B).Pairwise (fun a b => a.name < b.name) := by
    obtain ⟨h1, h2, h3⟩ := List.pairwise_append.1 hs
    refine List.pairwise_append.2 ⟨h1, List.pairwise_cons.2 ⟨fun q hq => by rw [hn]; exact (List.pairwise_cons.1 h2).1 q hq, (List.pairwise_cons.1 h2).2⟩, fun p hp q hq => ?_⟩
    rcases List.mem_cons.1 hq with rfl | hq
    · rw [hn]; exact h3 p hp r List.mem_cons_self
    · exact h3 p hp q (List.mem_cons_of_mem _ hq)
  funext l
  by_cases e : l = r.name
  · subst e
    rw [upd_same, lkR_mid hs', hn, if_pos rfl]
  · rw [upd_other _ _ e, lkR_mid hs', lkR_mid hs, hn, if_neg e, if_neg e]
theorem lkR_ins {A B : List RF} {r : RF} (hs : (A ++ r :: B).Pairwise (fun a b => a.name < b.name)) : (fun l => lkR (A ++ r :: B) l) = upd (fun l => lkR (A ++ B) l) r.name (some (r.bytes, r.synced)) := by
  funext l
  by_cases e : l = r.name
  · subst e
    rw [upd_same, lkR_mid hs, if_pos rfl]
  · rw [upd_other _ _ e, lkR_mid hs, if_neg e]
theorem lkR_del {A B : List RF} {r : RF} (hs : (A ++ r :: B).Pairwise (fun a b => a.name < b.name)) : (fun l => lkR (A ++ B) l) = upd (fun l => lkR (A ++ r :: B) l) r.name none := by
  funext l
  by_cases e : l = r.name
  · subst e
    rw [upd_same]
    exact lkR_no (mid_no hs)
  · rw [upd_other _ _ e, lkR_mid hs, if_neg e]
theorem split_at {rs : List RF} {k : Nat} (hk : k < rs.length) : rs = rs.take k ++ rs.getD k rfZ :: rs.drop (k + 1) := by
  have : rs.getD k rfZ = rs[k] := by simp [hk]
  rw [this]
  exact (List.take_append_drop k rs).symm.trans (by rw [List.drop_eq_getElem_cons hk])
/-- where a name stands, and what is there -/
theorem posR_cases (rs : List RF) (l : Bs) : (posR rs l = -1 ∧ (∀ q ∈ rs, q.name ≠ l) ∧ lkR rs l = none) ∨ ∃ k : Nat, posR rs l = (k : Int) ∧ k < rs.length ∧ (rs.getD k rfZ).name = l ∧ lkR rs l = some ((rs.getD k rfZ).bytes, (rs.getD k rfZ).synced) := by
  cases h : rs.findIdx? (fun r => r.name == l) with
  | none =>
    have hno : ∀ q ∈ rs, q.name ≠ l := fun q hq e => by
      have := List.findIdx?_eq_none_iff.1 h q hq
      simp [e] at this
    exact .inl ⟨by simp [posR, h], hno, lkR_no hno⟩
  | some k =>
    obtain ⟨hk, h1, h2⟩ := List.findIdx?_eq_some_iff_getElem.1 h
    have hg : rs.getD k rfZ = rs[k] := by simp [hk]
    refine .inr ⟨k, by simp [posR, h], hk, by rw [hg]; simpa using h1, ?_⟩
    have hf : rs.find? (fun r => r.name == l) = some rs[k] := by
      rw [List.find?_eq_some_iff_getElem]
      exact ⟨h1, k, hk, rfl, fun j hj => by simpa using h2 j hj⟩
    rw [hg]
    simp [lkR, hf]

/-- a store into the row -/
theorem row_set {w : World} {g cap n i : Nat} {xs : List Value} {x : Value} (h : w.ownsRow 0 56 3 (.slice (some ⟨g, 0, none⟩) n cap) n xs) : (w.setCell ⟨g, i, none⟩ x).ownsRow 0 56 3 (.slice (some ⟨g, 0, none⟩) n cap) n (xs.set i x) := by
  refine ⟨by simp [h.1], ?_⟩
  rcases h.2 with ⟨h', _⟩ | ⟨g', cap', cur, hv, hb, hgg, h1, h2, h3, h4⟩
  · cases h'
  · cases hv
    refine .inr ⟨g, cap, cur.setIfInBounds i x, rfl, hb, ?_, h1, h2, by simp [h3], ?_⟩
    · simp [World.setCell, Array.getElem?_modify, hgg]
    · rw [← h4, Array.toList_setIfInBounds, List.take_set]
theorem rff_set (A B : List RF) (r r' : RF) (f : Nat) (x : Value) (hf : f < 3) (h : rfc r' = (rfc r).set f x) : rff (A ++ r' :: B) = (rff (A ++ r :: B)).set (A.length * 3 + f) x := by
  have e1 : rff (A ++ r' :: B) = rff A ++ (rfc r' ++ rff B) := by rw [rff_append]; rfl
  have e2 : rff (A ++ r :: B) = rff A ++ (rfc r ++ rff B) := by rw [rff_append]; rfl
  have hl : (rff A).length = A.length * 3 := rff_len A
  have hr : (rfc r).length = 3 := rfl
  rw [e1, e2, h, List.set_append_right _ _ (by omega), hl, Nat.add_sub_cancel_left, List.set_append_left _ _ (by omega)]
/-- a file of the document's disk turned -/
theorem RefW.turn {w : World} {S S' : Nat → Prop} {gr g cap : Nat} {A B : List RF} {r r' : RF} (h : RefW w S gr (.slice (some ⟨g, 0, none⟩) (A ++ r :: B).length cap) (A ++ r :: B)) (hn : r'.name = r.name) (f : Nat) (x : Value) (hf : f < 3) (hx : rfc r' = (rfc r).set f x)
    (hS : ∀ k, S k → S' k) (hb : Rb w S' r'.val r'.bytes) (hfit : r'.synced ≤ r'.bytes.length ∧ r'.bytes.length ≤ 1048576) :
    RefW (w.setCell ⟨g, A.length * 3 + f, none⟩ x) S' gr (.slice (some ⟨g, 0, none⟩) (A ++ r :: B).length cap) (A ++ r' :: B) := by
  have hlen : (A ++ r' :: B).length = (A ++ r :: B).length := by simp
  have hgr : gr ≠ g := fun e => h.ne_row (by rw [e]; rfl)
  have hch : Ch w (w.setCell ⟨g, A.length * 3 + f, none⟩ x) (fun k => k = g) := Ch.of_gb (gb_set0 w g _ x) (fun k hk _ => by cases hk; rfl)
  have hRb : ∀ {q : RF}, Rb w S' q.val q.bytes → q.val.ownBlock ≠ some g → Rb (w.setCell ⟨g, A.length * 3 + f, none⟩ x) S' q.val q.bytes := by
    intro q hq hne
    refine ⟨hq.1.ch hch (fun b hb _ e => hne (by rw [hb, e])), fun b hb => ?_⟩
    obtain ⟨h1, cur, fr, h2⟩ := hq.2 b hb
    exact ⟨h1, cur, fr, by rw [hch.block (some_lt h2) (fun e => hne (by rw [hb, e]))]; exact h2⟩
  have hne' : r'.val.ownBlock ≠ some g := fun e => by
    obtain ⟨_, cur, fr, h2⟩ := hb.2 g e
    obtain ⟨cur', h3⟩ := h.row_obj (k := g) rfl
    rw [h3] at h2
    simp at h2
  have mem : ∀ {q : RF}, q ∈ A ++ r' :: B → q = r' ∨ q ∈ A ++ r :: B := fun {q} hq => by
    rcases List.mem_append.1 hq with h | h
    · exact .inr (List.mem_append_left _ h)
    · rcases List.mem_cons.1 h with h | h
      · exact .inl h
      · exact .inr (List.mem_append_right _ (List.mem_cons_of_mem _ h))
  refine ⟨?_, ?_, hS _ h.inB, fun k hk => hS _ (h.inR k hk), fun q hq => ?_, fun q hq => ?_, ?_, ?_⟩
  · rw [hch.block (some_lt h.box) hgr]; exact h.box
  · rw [hlen, rff_set A B r r' f x hf hx]
    exact row_set h.row
  · rcases mem hq with rfl | hq
    · exact hRb hb hne'
    · exact hRb ((h.each q hq).mono (fun k _ => hS k)) ((h.ne_val hq).2 g rfl)
  · rcases mem hq with rfl | hq
    · exact ⟨by rw [hn]; exact (h.fits r (by simp)).1, hfit⟩
    · exact h.fits q hq
  · obtain ⟨h1, h2, h3⟩ := List.pairwise_append.1 h.srt
    refine List.pairwise_append.2 ⟨h1, List.pairwise_cons.2 ⟨fun q hq => by rw [hn]; exact (List.pairwise_cons.1 h2).1 q hq, (List.pairwise_cons.1 h2).2⟩, fun p hp q hq => ?_⟩
    rcases List.mem_cons.1 hq with rfl | hq
    · rw [hn]; exact h3 p hp r List.mem_cons_self
    · exact h3 p hp q (List.mem_cons_of_mem _ hq)
  · rw [hlen]; exact h.most
end Go.Proofs.Ytgafmplmngbbfaa
