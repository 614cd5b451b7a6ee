/-
  Which bytes a crash is to keep, by name: keptByName of whatever list: the walk.
-/
import Derived.Test.YtgafmplmngbbfaaDiskQ2
namespace Go.Proofs.Ytgafmplmngbbfaa
open Go.RowKit Go.Maps Go.WideMaps

/-- how many bytes of a file a crash is to keep -/
structure Kp where
  name : Bs
  n : Int
def kpZ : Kp := ⟨[], 0⟩
instance : Inhabited Kp := ⟨kpZ⟩
/-- the value is a slice that reads as these -/
def KpsIn (w : World) (v : Value) (ks : List Kp) : Prop :=
  ∃ a c, v = .slice a ks.length c ∧ ks.length ≤ maxLen ∧ ∀ j, j < ks.length → (ks.getD j kpZ).name.length ≤ maxLen ∧ (Lit.int .i64 (ks.getD j kpZ).n).wf = true ∧ ∃ b o, a = some ⟨b, o, none⟩ ∧
    w.cell? ⟨b, o + j * 2, none⟩ = some (.string (ByteArray.mk ⟨(ks.getD j kpZ).name⟩)) ∧ w.cell? ⟨b, o + j * 2 + 1, none⟩ = some (.int .i64 (ks.getD j kpZ).n)
theorem KpsIn.via {w w' : World} {v : Value} {ks : List Kp} (h : KpsIn w v ks) (hk : ∀ k, v.ownBlock = some k → k < w.heap.size → w'.heap[k]? = w.heap[k]?) : KpsIn w' v ks := by
  obtain ⟨a, c, rfl, h2, h3⟩ := h
  refine ⟨a, c, rfl, h2, fun j hj => ?_⟩
  obtain ⟨n1, n2, b, o, rfl, c0, c1⟩ := h3 j hj
  have hk' := World.cell?_of_block (a := ⟨b, o + j * 2, none⟩) (hk b rfl (block_lt c0))
  have hk'' := World.cell?_of_block (a := ⟨b, o + j * 2 + 1, none⟩) (hk b rfl (block_lt c0))
  exact ⟨n1, n2, b, o, rfl, by rw [hk']; exact c0, by rw [hk'']; exact c1⟩
theorem KpsIn.keep {w w' : World} {v : Value} {ks : List Kp} (h : KpsIn w v ks) (hg : w.grownBy w' none) : KpsIn w' v ks :=
  h.via (fun k _ hk => hg.block k hk (by simp))
theorem KpsIn.nil (w : World) : KpsIn w (.slice none 0 0) [] := ⟨none, 0, rfl, by simp, fun j hj => by simp at hj⟩

/-- no file twice, nothing below 0 -/
def KpOk (ks : List Kp) : Prop := ks.Pairwise (fun a b => a.name ≠ b.name) ∧ ∀ k ∈ ks, 0 ≤ k.n
instance (ks : List Kp) : Decidable (KpOk ks) := by unfold KpOk; infer_instance
def keptAt (ks : List Kp) (l : Bs) : Int := match ks.find? (fun k => k.name == l) with | some k => k.n | none => 0
/-- a map of what is to be kept -/
def KMap (w : World) (gk n : Nat) (ks : List Kp) : Prop := ∃ D : DataW Unit, w.ownsMap Try.prog 9 (plainElem Try.prog 3) gk n D ∧ (∀ l, Maps.has D (.string l) = ks.any (fun k => k.name == l)) ∧ ∀ l, D.atKey (.string l) (.lit (.int .i64 0)) = .lit (.int .i64 (keptAt ks l))
theorem KMap.via {w w' : World} {gk n : Nat} {ks : List Kp} (h : KMap w gk n ks) (hb : w'.heap[gk]? = w.heap[gk]?) : KMap w' gk n ks := by
  obtain ⟨D, ⟨es, clock, hb', r⟩, h2⟩ := h
  exact ⟨D, ⟨es, clock, hb.trans hb', r⟩, h2⟩
theorem KMap.lt {w : World} {gk n : Nat} {ks : List Kp} (h : KMap w gk n ks) : gk < w.heap.size := by
  obtain ⟨D, h, -⟩ := h
  exact h.lt
theorem KMap.obj {w : World} {gk n : Nat} {ks : List Kp} (h : KMap w gk n ks) : ∃ es clock, w.heap[gk]? = some (.map es clock) := by
  obtain ⟨D, ⟨es, clock, hb, _⟩, -⟩ := h
  exact ⟨es, clock, hb⟩
theorem keptAt_snoc (ks : List Kp) (k : Kp) (h : ks.any (fun x => x.name == k.name) = false) (l : Bs) : keptAt (ks ++ [k]) l = if l = k.name then k.n else keptAt ks l := by
  unfold keptAt
  rw [List.find?_append]
  by_cases e : l = k.name
  · subst e
    have : ks.find? (fun x => x.name == k.name) = none := by
      rw [List.find?_eq_none]
      intro x hx hx'
      have := List.any_eq_false.1 h x hx
      exact this hx'
    rw [this, if_pos rfl]
    simp
  · rw [if_neg e]
    cases hf : ks.find? (fun x => x.name == l) with
    | some x => simp
    | none =>
      have : (k.name == l) = false := by simpa using fun h => e h.symm
      simp [List.find?, this]
theorem KMap.add {w w' : World} {gk n n' : Nat} {ks : List Kp} {k : Kp} {D : DataW Unit} (hd : w.ownsMap Try.prog 9 (plainElem Try.prog 3) gk n D) (hh : ∀ l, Maps.has D (.string l) = ks.any (fun k => k.name == l)) (ha : ∀ l, D.atKey (.string l) (.lit (.int .i64 0)) = .lit (.int .i64 (keptAt ks l)))
    (hno : ks.any (fun x => x.name == k.name) = false) (hd' : w'.ownsMap Try.prog 9 (plainElem Try.prog 3) gk n' (D.put (.string k.name) (.lit (.int .i64 k.n)))) : KMap w' gk n' (ks ++ [k]) := by
  refine ⟨_, hd', fun l => ?_, fun l => ?_⟩
  · by_cases e : l = k.name
    · subst e
      rw [has_put_same hd.isMap (keyLit _)]
      simp
    · rw [has_put_other (lit_ne e), hh]
      have : (k.name == l) = false := by simpa using fun h => e h.symm
      simp [this]
  · rw [keptAt_snoc ks k hno]
    by_cases e : l = k.name
    · subst e
      rw [atKey_put_same hd.isMap (keyLit _), if_pos rfl]
    · rw [atKey_put_other (lit_ne e), if_neg e, ha]
theorem makeH (n : Int) (w : World) : (Instr.makeMap 81 (some (.int .i64 n))).run Try.prog w = .ok (.map (some w.heap.size)) (w.alloc (.map #[] 0)) := by
  kernel_rfl
theorem zeroI (w : World) : (zeroValue 3).run Try.prog w = .ok (.int .i64 0) w := by kernel_rfl
theorem kpOk_take {ks : List Kp} {k : Nat} (hk : k < ks.length) (h : KpOk (ks.take k)) (hno : (ks.take k).any (fun x => x.name == (ks.getD k kpZ).name) = false) (hn : 0 ≤ (ks.getD k kpZ).n) : KpOk (ks.take (k + 1)) := by
  have e : ks.take (k + 1) = ks.take k ++ [ks.getD k kpZ] := by
    rw [List.take_succ_eq_append_getElem hk]
    simp [hk]
  rw [e]
  refine ⟨List.pairwise_append.2 ⟨h.1, by simp, fun a ha b hb => ?_⟩, fun x hx => ?_⟩
  · simp only [List.mem_singleton] at hb
    subst hb
    have := List.any_eq_false.1 hno a ha
    simpa using this
  · rcases List.mem_append.1 hx with hx | hx
    · exact h.2 x hx
    · simp only [List.mem_singleton] at hx
      subst hx
      exact hn
theorem take_snoc' {ks : List Kp} {k : Nat} (hk : k < ks.length) : ks.take (k + 1) = ks.take k ++ [ks.getD k kpZ] := by
  rw [List.take_succ_eq_append_getElem hk]
  simp [hk]

set_option maxRecDepth 8000 in
set_option maxHeartbeats 3200000 in
theorem kept_any (v : Value) (ks : List Kp) (w : World) (hv : KpsIn w v ks) :
    Calls Try.prog 46 #[v] w fun e w' => w.grownBy w' none ∧ ((KpOk ks ∧ e = .returned (.tuple #[.map (some w.heap.size), .int .i64 0]) ∧ KMap w' w.heap.size ks.length ks) ∨ (¬ KpOk ks ∧ e = .returned (.tuple #[.map none, .int .i64 1]))) := by
  have HV : Hid (KpsIn w v ks) := hv
  obtain ⟨a, c, rfl, hlen, -⟩ := hv
  unfold maxLen at hlen
  have hmm := makeH
  have HL : Hid (ks.length ≤ 9223372036854775807) := hlen
  have hlen2 : (ks.length : Int) ≤ 9223372036854775807 := by omega
  clear hlen
  generalize hL : ks.length = L at *
  have HLe : Hid (ks.length = L) := hL
  clear hL
  go_enter Try.func46, Try.ntmps46
  go_wp2
  go_loopw [14] (fun i wr => ∃ k : Nat, k ≤ L ∧ i = .int .i64 (k : Int) ∧ Hid (w.grownBy wr none ∧ KMap wr w.heap.size k (ks.take k) ∧ KpOk (ks.take k))) (fun i _ => L - (intOf i).toNat)
  case atStart => exact ⟨0, by omega, rfl, World.grownBy_alloc _ _ none, ⟨.map [], World.ownsMap_made _ _ _ _, fun l => rfl, fun l => rfl⟩, by simp [KpOk]⟩
  case round =>
    obtain ⟨k, hk, rfl, HK⟩ := hrel
    by_cases hkl : k < L
    · obtain ⟨a0, c0', hv0, hl0, hcells⟩ := HV.out.keep HK.out.1
      simp only [Value.slice.injEq] at hv0
      obtain ⟨rfl, -, -⟩ := hv0
      obtain ⟨n1, n2, b, o, rfl, c0, c1⟩ := hcells k (by rw [HLe.out]; exact hkl)
      clear hcells hl0
      have HT : Hid (ks.take (k + 1) = ks.take k ++ [ks.getD k kpZ]) := take_snoc' (by rw [HLe.out]; exact hkl)
      have HO : Hid (∀ x : Kp, ks.getD k kpZ = x → (ks.take k).any (fun y => y.name == x.name) = false → 0 ≤ x.n → KpOk (ks.take (k + 1))) := fun x hx h1 h2 => kpOk_take (by rw [HLe.out]; exact hkl) HK.out.2.2 (by rw [hx]; exact h1) (by rw [hx]; exact h2)
      have HB : Hid (∀ x : Kp, ks.getD k kpZ = x → (ks.take k).any (fun y => y.name == x.name) = true ∨ x.n < 0 → ¬ KpOk ks) := by
        intro x hx h1 hok
        have hs : (ks.take (k + 1)).Sublist ks := List.take_sublist _ _
        have hp := hok.1.sublist hs
        rw [HT.out] at hp
        have hmem : x ∈ ks := by
          rw [← hx]
          have : k < ks.length := by rw [HLe.out]; exact hkl
          simp [this]
        rcases h1 with h1 | h1
        · obtain ⟨y, hy, hyn⟩ := List.any_eq_true.1 h1
          have := (List.pairwise_append.1 hp).2.2 y hy _ (List.mem_singleton.2 rfl)
          rw [hx] at this
          exact this (by simpa using hyn)
        · have := hok.2 x hmem
          omega
      generalize hx : ks.getD k kpZ = x at *
      clear hx
      have HKy : Hid (keyOf Try.prog 9 (.string (ByteArray.mk ⟨x.name⟩)) = some (.string x.name)) := keyS x.name n1
      have HW : Hid ((Lit.int .i64 x.n).wf = true) := n2
      clear n1 n2
      obtain ⟨D, hD, hDh, hDa⟩ := HK.out.2.1
      have hw2 : w.grownBy (wr.alloc (.cells #[.string (ByteArray.mk ⟨x.name⟩), .int .i64 x.n] 80)) none := gb_none HK.out.1 (World.grownBy_alloc _ _ none)
      have hD1 := hD.alloc (.cells #[.string (ByteArray.mk ⟨x.name⟩), .int .i64 x.n] 80)
      have HG : Hid (w.grownBy (wr.alloc (.cells #[.string (ByteArray.mk ⟨x.name⟩), .int .i64 x.n] 80)) none) := hw2
      clear hw2
      cases hany : (ks.take k).any (fun y => y.name == x.name) with
      | true =>
        have HBad : Hid (¬ KpOk ks) := HB.out x rfl (.inl hany)
        obtain ⟨q, hlook⟩ : ∃ q : Int, (Instr.lookup 81 (.map (some w.heap.size)) (.string (ByteArray.mk ⟨x.name⟩)) true).run Try.prog (wr.alloc (.cells #[.string (ByteArray.mk ⟨x.name⟩), .int .i64 x.n] 80)) = .ok (.tuple #[.int .i64 q, .bool true]) (wr.alloc (.cells #[.string (ByteArray.mk ⟨x.name⟩), .int .i64 x.n] 80)) := by
          obtain ⟨v, ps, h1, h2⟩ := hD1.look_ok lawS Try.underlying81 (zeroI _) (plainElem_int Try.underlying3 (by decide)) HKy.out
          obtain ⟨c, rfl, -, -⟩ := plainElem_int_inv Try.underlying3 h2
          rw [hDh, hany] at h1
          exact ⟨c, h1⟩
        clear hD hDh hDa hD1 HB HO HT HKy HW
        generalize ByteArray.mk ⟨x.name⟩ = s at *
        generalize x.n = xn at *
        clear hany
        go_wp2
        go_ret2
        exact ⟨HG.out, .inr ⟨HBad.out, rfl⟩⟩
      | false =>
        have hlook : (Instr.lookup 81 (.map (some w.heap.size)) (.string (ByteArray.mk ⟨x.name⟩)) true).run Try.prog (wr.alloc (.cells #[.string (ByteArray.mk ⟨x.name⟩), .int .i64 x.n] 80)) = .ok (.tuple #[.int .i64 0, .bool false]) (wr.alloc (.cells #[.string (ByteArray.mk ⟨x.name⟩), .int .i64 x.n] 80)) := by
          obtain ⟨v, ps, h1, h2⟩ := hD1.look_ok lawS Try.underlying81 (zeroI _) (plainElem_int Try.underlying3 (by decide)) HKy.out
          obtain ⟨c, rfl, hc, -⟩ := plainElem_int_inv Try.underlying3 h2
          rw [hDh, hany] at h1
          have hno : Maps.has D (.string x.name) = false := by rw [hDh]; exact hany
          rw [atKey_of_not_has hno] at hc
          simp at hc
          rw [← hc.1] at h1
          exact h1
        by_cases hneg : x.n < 0
        · have HBad : Hid (¬ KpOk ks) := HB.out x rfl (.inr hneg)
          clear hD hDh hDa hD1 HB HO HT HKy HW hany
          generalize ByteArray.mk ⟨x.name⟩ = s at *
          generalize x.n = xn at *
          go_wp2
          go_ret2
          exact ⟨HG.out, .inr ⟨HBad.out, rfl⟩⟩
        · obtain ⟨w4, hup, ho4, hg4⟩ := hD1.update lawS Try.underlying81 (by unfold maxLen; omega) HKy.out (plainElem_int Try.underlying3 HW.out)
          have H4 : Hid (w.grownBy w4 none ∧ KMap w4 w.heap.size (k + 1) (ks.take (k + 1)) ∧ KpOk (ks.take (k + 1))) := by
            refine ⟨gb_new HG.out hg4 (fun j hj => by cases hj; exact Nat.le_refl _), ?_, HO.out x rfl hany (by omega)⟩
            rw [HT.out]
            exact KMap.add hD1 hDh hDa hany ho4
          clear hD hDh hDa hD1 HB HO HT HKy HW hany ho4 hg4
          generalize ByteArray.mk ⟨x.name⟩ = s at *
          generalize x.n = xn at *
          go_wp2
          go_roundw
          case rel => exact ⟨k + 1, by omega, by go_num, H4⟩
          case measure => simp [intOf]; omega
    · have he : Hid (ks.take k = ks) := List.take_of_length_le (by rw [HLe.out]; omega)
      have hkL : k = L := by omega
      have H4 : Hid (w.grownBy wr none ∧ KpOk ks ∧ KMap wr w.heap.size L ks) := by
        have := HK.out
        rw [he.out, hkL] at this
        exact ⟨this.1, this.2.2, this.2.1⟩
      clear HK he hkL
      go_wp2
      go_ret2
      exact ⟨H4.out.1, .inl ⟨H4.out.2.1, rfl, H4.out.2.2⟩⟩
end Go.Proofs.Ytgafmplmngbbfaa
