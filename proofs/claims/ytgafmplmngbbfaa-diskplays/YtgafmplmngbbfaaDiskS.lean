/-
  A disk of which one file has turned, or has come: plain facts.
-/
import Derived.Test.YtgafmplmngbbfaaDiskB2
namespace Go.Proofs.Ytgafmplmngbbfaa
open Go.RowKit Go.Maps Go.WideMaps

theorem DiskW.set {w w' : World} {S T : Nat → Prop} {gd N gm : Nat} {M : Fls} {D : DataW Unit} {gf : Bs → Nat} {u : Bs → Value} (h : DiskW w S gd M N gm D gf u) (l c : Bs) (z g' N' : Nat) (u' : Value) (D' : DataW Unit)
    (hmap : w'.ownsMap Try.prog 9 ptrElem gm N' D') (hsz : Maps.size D' = N') (hmost : N' ≤ 256)
    (hhas : ∀ l', Maps.has D' (.string l') = (upd M l (some (c, z)) l').isSome)
    (hat : ∀ l', l' ≠ l → D'.atKey (.string l') (.lit (.int .i64 (-1))) = D.atKey (.string l') (.lit (.int .i64 (-1)))) (hatl : D'.atKey (.string l) (.lit (.int .i64 (-1))) = .lit (.int .i64 (g' : Int)))
    (hch : Ch w w' T) (hTd : ¬ T gd) (hT : ∀ l' c' z', l' ≠ l → M l' = some (c', z') → ¬ T (gf l') ∧ ∀ k, (u l').ownBlock = some k → ¬ T k)
    (hfile : w'.heap[g']? = some (.cells #[u', .int .i64 (z : Int)] 77)) (hown : Own w' 0 u' c) (hfit : nameOk l = true ∧ z ≤ c.length ∧ c.length ≤ 1048576)
    (hgS : S g' ∨ w.heap.size ≤ g') (hga : ∀ l' c' z', l' ≠ l → M l' = some (c', z') → gf l' ≠ g')
    (huS : ∀ k, u'.ownBlock = some k → S k ∨ w.heap.size ≤ k) (hua : ∀ l' c' z', l' ≠ l → M l' = some (c', z') → ∀ k, u'.ownBlock = some k → (u l').ownBlock ≠ some k) :
    DiskW w' (Gr S w w') gd (upd M l (some (c, z))) N' gm D' (fun k => if k = l then g' else gf k) (fun k => if k = l then u' else u k) := by
  have key : ∀ {l' : Bs} {c' : Bs} {z' : Nat}, upd M l (some (c, z)) l' = some (c', z') → (l' = l ∧ c' = c ∧ z' = z) ∨ (l' ≠ l ∧ M l' = some (c', z')) := by
    intro l' c' z' hl'
    by_cases e : l' = l
    · subst e
      rw [upd_same] at hl'
      simp at hl'
      exact .inl ⟨rfl, hl'.1.symm, hl'.2.symm⟩
    · rw [upd_other _ _ e] at hl'
      exact .inr ⟨e, hl'⟩
  have toS : ∀ {k : Nat}, k < w'.heap.size → S k ∨ w.heap.size ≤ k → Gr S w w' k := fun hk h => h.elim Or.inl (fun h => .inr ⟨h, hk⟩)
  refine ⟨?_, hmap, hsz, hmost, .inl h.inD, .inl h.inM, hhas, ?_, ?_, ?_, ?_, ?_, ?_⟩
  · rw [hch.block (some_lt h.box) hTd]; exact h.box
  · intro l' c' z' hl'
    rcases key hl' with ⟨rfl, -, -⟩ | ⟨e, hm⟩
    · rw [hatl, if_pos rfl]
    · rw [hat l' e, if_neg e]; exact h.at' l' c' z' hm
  · intro l' c' z' hl'
    rcases key hl' with ⟨rfl, rfl, rfl⟩ | ⟨e, hm⟩
    · rw [if_pos rfl, if_pos rfl]; exact hfile
    · rw [if_neg e, if_neg e, hch.block (some_lt (h.file l' c' z' hm)) (hT l' c' z' e hm).1]; exact h.file l' c' z' hm
  · intro l' c' z' hl'
    rcases key hl' with ⟨rfl, rfl, rfl⟩ | ⟨e, hm⟩
    · rw [if_pos rfl]; exact hown
    · rw [if_neg e]
      exact (h.own l' c' z' hm).via (fun k hk => hch.block ((h.own l' c' z' hm).lt k hk).2 ((hT l' c' z' e hm).2 k hk))
  · intro l' c' z' hl'
    rcases key hl' with ⟨rfl, rfl, rfl⟩ | ⟨e, hm⟩
    · exact hfit
    · exact h.fits l' c' z' hm
  · intro l' c' z' hl'
    rcases key hl' with ⟨rfl, rfl, rfl⟩ | ⟨e, hm⟩
    · rw [if_pos rfl, if_pos rfl]
      exact ⟨toS (some_lt hfile) hgS, fun k hk => toS (hown.lt k hk).2 (huS k hk)⟩
    · rw [if_neg e, if_neg e]
      exact ⟨.inl (h.inF l' c' z' hm).1, fun k hk => .inl ((h.inF l' c' z' hm).2 k hk)⟩
  · intro a b ha hb hab
    obtain ⟨⟨ca, za⟩, ha⟩ := Option.ne_none_iff_exists'.1 ha
    obtain ⟨⟨cb, zb⟩, hb⟩ := Option.ne_none_iff_exists'.1 hb
    rcases key ha with ⟨rfl, -, -⟩ | ⟨ea, ma⟩
    · rcases key hb with ⟨rfl, -, -⟩ | ⟨eb, mb⟩
      · exact absurd rfl hab
      · simp only [if_true, if_neg eb]
        exact ⟨fun e => hga b cb zb eb mb e.symm, hua b cb zb eb mb⟩
    · rcases key hb with ⟨rfl, -, -⟩ | ⟨eb, mb⟩
      · simp only [if_true, if_neg ea]
        exact ⟨hga a ca za ea ma, fun k hk hk' => hua a ca za ea ma k hk' hk⟩
      · simp only [if_neg ea, if_neg eb]
        exact h.apart a b (by simp [ma]) (by simp [mb]) hab

/-- .. in the place that it has -/
theorem DiskW.turn {w w' : World} {S T : Nat → Prop} {gd N gm : Nat} {M : Fls} {D : DataW Unit} {gf : Bs → Nat} {u : Bs → Value} (h : DiskW w S gd M N gm D gf u) (l c c0 : Bs) (z z0 : Nat) (u' : Value) (hl : M l = some (c0, z0))
    (hch : Ch w w' T) (hTs : ∀ k, k < w.heap.size → T k → k = gf l ∨ (u l).ownBlock = some k)
    (hfile : w'.heap[gf l]? = some (.cells #[u', .int .i64 (z : Int)] 77)) (hown : Own w' 0 u' c) (hfit : z ≤ c.length ∧ c.length ≤ 1048576)
    (hu : ∀ k, u'.ownBlock = some k → (u l).ownBlock = some k ∨ w.heap.size ≤ k) :
    DiskW w' (Gr S w w') gd (upd M l (some (c, z))) N gm D (fun k => if k = l then gf l else gf k) (fun k => if k = l then u' else u k) := by
  have hmf := h.ne_mf hl
  have hmu := h.ne_u hl
  have hTm : ¬ T gm := fun ht => (hTs gm h.map.lt ht).elim hmf hmu.2.1
  refine h.set l c z (gf l) N u' D (map_via h.map (hch.block h.map.lt hTm)) h.size h.most ?_ (fun _ _ => rfl) (h.at' l c0 z0 hl) hch ?_ ?_ hfile hown ⟨(h.fits l c0 z0 hl).1, hfit⟩ (.inl (h.inF l c0 z0 hl).1) ?_ ?_ ?_
  · intro l'
    rw [h.has]
    by_cases e : l' = l
    · subst e; rw [upd_same, hl]; rfl
    · rw [upd_other _ _ e]
  · exact fun ht => (hTs gd (some_lt h.box) ht).elim (h.ne_df hl) hmu.1
  · intro l' c' z' e hm
    have ap := h.apart l' l (by simp [hm]) (by simp [hl]) e
    refine ⟨fun ht => (hTs _ (some_lt (h.file l' c' z' hm)) ht).elim ap.1 (hmu.2.2 l' c' z' hm), fun k hk ht => ?_⟩
    rcases hTs k ((h.own l' c' z' hm).lt k hk).2 ht with rfl | hk'
    · exact (h.ne_u hm).2.2 l c0 z0 hl hk
    · exact ap.2 k hk hk'
  · exact fun l' c' z' e hm => (h.apart l' l (by simp [hm]) (by simp [hl]) e).1
  · exact fun k hk => (hu k hk).imp (fun hk' => (h.inF l c0 z0 hl).2 k hk') id
  · intro l' c' z' e hm k hk hk'
    rcases hu k hk with h1 | h1
    · exact (h.apart l' l (by simp [hm]) (by simp [hl]) e).2 k hk' h1
    · have := ((h.own l' c' z' hm).lt k hk').2
      omega

theorem keyLit (l : Bs) : WideAt.IsKeyLit (.string l) := trivial
/-- .. laid into the map -/
theorem DiskW.put {w w' : World} {S T : Nat → Prop} {gd N gm : Nat} {M : Fls} {D : DataW Unit} {gf : Bs → Nat} {u : Bs → Value} (h : DiskW w S gd M N gm D gf u) (l c : Bs) (z g' n : Nat) (u' : Value)
    (hmap : w'.ownsMap Try.prog 9 ptrElem gm n (D.put (.string l) (.lit (.int .i64 (g' : Int))))) (hmost : N + (if (M l).isSome then 0 else 1) ≤ 256)
    (hch : Ch w w' T) (hTd : ¬ T gd) (hT : ∀ l' c' z', l' ≠ l → M l' = some (c', z') → ¬ T (gf l') ∧ ∀ k, (u l').ownBlock = some k → ¬ T k)
    (hfile : w'.heap[g']? = some (.cells #[u', .int .i64 (z : Int)] 77)) (hown : Own w' 0 u' c) (hfit : nameOk l = true ∧ z ≤ c.length ∧ c.length ≤ 1048576)
    (hgS : S g' ∨ w.heap.size ≤ g') (hga : ∀ l' c' z', l' ≠ l → M l' = some (c', z') → gf l' ≠ g')
    (huS : ∀ k, u'.ownBlock = some k → S k ∨ w.heap.size ≤ k) (hua : ∀ l' c' z', l' ≠ l → M l' = some (c', z') → ∀ k, u'.ownBlock = some k → (u l').ownBlock ≠ some k) :
    DiskW w' (Gr S w w') gd (upd M l (some (c, z))) (N + (if (M l).isSome then 0 else 1)) gm (D.put (.string l) (.lit (.int .i64 (g' : Int)))) (fun k => if k = l then g' else gf k) (fun k => if k = l then u' else u k) := by
  have hs : Maps.size (D.put (.string l) (.lit (.int .i64 (g' : Int)))) = N + (if (M l).isSome then 0 else 1) := by
    rw [size_put (h.map.tidy lawS), h.has, h.size]
    cases (M l).isSome <;> simp
  refine h.set l c z g' _ u' _ (own_tight hmap hs) hs hmost ?_ ?_ ?_ hch hTd hT hfile hown hfit hgS hga huS hua
  · intro l'
    by_cases e : l' = l
    · subst e; rw [upd_same, has_put_same h.map.isMap (keyLit _)]; rfl
    · rw [upd_other _ _ e, has_put_other (lit_ne e), h.has]
  · exact fun l' e => atKey_put_other (lit_ne e) _ _
  · exact atKey_put_same h.map.isMap (keyLit _) _ _

/-- .. taken away -/
theorem DiskW.del {w w' : World} {S : Nat → Prop} {gd N gm : Nat} {M : Fls} {D : DataW Unit} {gf : Bs → Nat} {u : Bs → Value} (h : DiskW w S gd M N gm D gf u) (l c0 : Bs) (z0 n : Nat) (hl : M l = some (c0, z0))
    (hmap : w'.ownsMap Try.prog 9 ptrElem gm n (D.del (.string l))) (hch : Ch w w' (fun k => k = gm)) :
    DiskW w' S gd (upd M l none) (N - 1) gm (D.del (.string l)) gf u := by
  have hs : Maps.size (D.del (.string l)) = N - 1 := by
    have := size_del (k := .string l) (h.map.tidy lawS)
    rw [h.has, h.size, hl] at this
    simp at this
    omega
  have key : ∀ {l' : Bs} {c' : Bs} {z' : Nat}, upd M l none l' = some (c', z') → l' ≠ l ∧ M l' = some (c', z') := by
    intro l' c' z' hl'
    by_cases e : l' = l
    · subst e; rw [upd_same] at hl'; cases hl'
    · rw [upd_other _ _ e] at hl'; exact ⟨e, hl'⟩
  refine ⟨?_, own_tight hmap hs, hs, by have := h.most; omega, h.inD, h.inM, ?_, ?_, ?_, ?_, ?_, ?_, ?_⟩
  · rw [hch.block (some_lt h.box) h.ne_dm]; exact h.box
  · intro l'
    by_cases e : l' = l
    · subst e; rw [upd_same, has_del_same]; rfl
    · rw [upd_other _ _ e, has_del_other (lit_ne e), h.has]
  · intro l' c' z' hl'
    obtain ⟨e, hm⟩ := key hl'
    rw [atKey_del_other (lit_ne e)]; exact h.at' l' c' z' hm
  · intro l' c' z' hl'
    obtain ⟨e, hm⟩ := key hl'
    rw [hch.block (some_lt (h.file l' c' z' hm)) (fun e => h.ne_mf hm e.symm)]; exact h.file l' c' z' hm
  · intro l' c' z' hl'
    obtain ⟨e, hm⟩ := key hl'
    exact (h.own l' c' z' hm).via (fun k hk => hch.block ((h.own l' c' z' hm).lt k hk).2 (fun e => (h.ne_u hm).2.1 (by rw [hk, e])))
  · exact fun l' c' z' hl' => h.fits l' c' z' (key hl').2
  · exact fun l' c' z' hl' => h.inF l' c' z' (key hl').2
  · intro a b ha hb hab
    obtain ⟨⟨ca, za⟩, ha⟩ := Option.ne_none_iff_exists'.1 ha
    obtain ⟨⟨cb, zb⟩, hb⟩ := Option.ne_none_iff_exists'.1 hb
    exact h.apart a b (by simp [(key ha).2]) (by simp [(key hb).2]) hab
end Go.Proofs.Ytgafmplmngbbfaa
