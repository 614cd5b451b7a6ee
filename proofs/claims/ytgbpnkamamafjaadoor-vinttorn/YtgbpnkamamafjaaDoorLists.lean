/-
  Lists of bytes in memory of the call's own: what vint.Frames, the document's Frames and SameAll come to: the walks.
-/
import Derived.Test.YtgbpnkamamafjaaDoorFrameQ
import Derived.Test.YtgbpnkamamafjaaDoorLent
import Derived.Deep.QuietTactic
import Derived.BigQuiet
import Derived.WalkMore
namespace Go.Proofs.YtgbpnkamamafjaaDoor
open Go.RowKit

theorem infoV : (Tryd.prog.info? 22).map (fun i => (i.zero, i.size, i.bytes)) = some (some (.slice none 0 0), 1, 24) := by kernel_rfl

/-- a row of slices of the call's own -/
def OwnV (w : World) (base : Nat) (v : Value) (vals : List Value) : Prop := w.ownsRow base 22 1 v vals.length vals
/-- each of them is a row of bytes of the call's own -/
def Els (w : World) (base : Nat) (vals : List Value) (ls : List (List UInt8)) : Prop := vals.length = ls.length ∧ ∀ i, i < vals.length → Own w base (vals.getD i undef) (ls.getD i [])

theorem OwnV.nil (w : World) (base : Nat) : OwnV w base (.slice none 0 0) [] := World.ownsRow_nil w base _ _
theorem OwnV.lt {w : World} {base : Nat} {v : Value} {vals : List Value} (h : OwnV w base v vals) : ∀ k, v.ownBlock = some k → base ≤ k ∧ k < w.heap.size := World.ownsRow.lt h
theorem OwnV.keep {w w' : World} {base : Nat} {v : Value} {vals : List Value} (h : OwnV w base v vals) (hg : w.grownBy w' none) : OwnV w' base v vals := by
  refine World.ownsRow.kept h hg ?_
  cases hv : v.ownBlock with
  | none => exact .inl rfl
  | some k => exact .inr (by simp)
/-- the row of slices is none of the rows of bytes -/
theorem OwnV.apart {w : World} {base base' : Nat} {v u : Value} {vals : List Value} {l : List UInt8} (h : OwnV w base v vals) (h' : Own w base' u l) : u.ownBlock = none ∨ u.ownBlock ≠ v.ownBlock := by
  rcases h'.2 with ⟨rfl, _⟩ | ⟨g, cap, cur, rfl, _, hh, _⟩
  · exact .inl rfl
  · right
    intro he
    rcases h.2 with ⟨rfl, _⟩ | ⟨g', cap', cur', rfl, _, hh', _⟩
    · simp [Value.ownBlock] at he
    · simp only [Value.ownBlock, Option.some.injEq] at he
      subst he
      rw [hh] at hh'
      simp at hh'
theorem Els.keep {w w' : World} {base : Nat} {vals : List Value} {ls : List (List UInt8)} (h : Els w base vals ls) (hg : w.grownBy w' none) : Els w' base vals ls := ⟨h.1, fun i hi => (h.2 i hi).keep hg⟩
theorem Els.keptV {w w' : World} {base : Nat} {v : Value} {vs vals : List Value} {ls : List (List UInt8)} (h : Els w base vals ls) (hv : OwnV w base v vs) (hg : w.grownBy w' v.ownBlock) : Els w' base vals ls :=
  ⟨h.1, fun i hi => (h.2 i hi).kept hg (hv.apart (h.2 i hi))⟩
theorem Els.snoc {w : World} {base : Nat} {vals : List Value} {ls : List (List UInt8)} {u : Value} {l : List UInt8} (h : Els w base vals ls) (hu : Own w base u l) : Els w base (vals ++ [u]) (ls ++ [l]) := by
  refine ⟨by simp [h.1], fun i hi => ?_⟩
  simp only [List.length_append, List.length_cons, List.length_nil] at hi
  by_cases hlt : i < vals.length
  · have e1 : (vals ++ [u]).getD i undef = vals.getD i undef := by simp only [List.getD, List.getElem?_append_left hlt]
    have e2 : (ls ++ [l]).getD i [] = ls.getD i [] := by simp only [List.getD, List.getElem?_append_left (h.1 ▸ hlt)]
    rw [e1, e2]
    exact h.2 i hlt
  · obtain rfl : i = vals.length := by omega
    have e1 : (vals ++ [u]).getD vals.length undef = u := by simp
    have e2 : (ls ++ [l]).getD vals.length [] = l := by rw [h.1]; simp
    rw [e1, e2]
    exact hu

/-- one slice more, for the walk -/
theorem wp_appV {w : World} {ops : Array Oper} {rest : List Oper} {o : Oper} {a : Act} {Q : Exit → Act → World → Prop} (hgd : o.guard = none) (s x : Operand)
    (ho : o.op = .call { callee := .builtin .append, args := #[s, x], argTypes := #[48, 48] })
    (base : Nat) (v : Value) (vals : List Value) (u : Value) (g : Nat) (hs : a.eval s = v) (hx : a.eval x = .slice (some ⟨g, 0, none⟩) 1 1) (hc : w.cell? ⟨g, 0, none⟩ = some u) (hu : u.oneCell' = true)
    (hown : OwnV w base v vals) (hsz : vals.length ≤ 16777216) (hbase : base ≤ w.heap.size)
    (h : ∀ v' w', OwnV w' base v' (vals ++ [u]) → w.grownBy w' v.ownBlock → wpList Tryd.prog ops Q rest (a.put o.dst v') w') : wpList Tryd.prog ops Q (o :: rest) a w := by
  obtain ⟨i0, hi, hz0, hz1, hz2⟩ := info_parts infoV
  refine wpList_append_own_wide w hgd s x _ ho base 22 i0 (.slice none 0 0) 1 24 Tryd.underlying48 hi hz0 hz1 hz2 rfl (by decide) v vals.length vals hs hown ⟨g, 0, none⟩ 1 1 [u] hx rfl ?_ ?_ (by unfold maxLen; omega) (by omega) hbase ?_
  · intro j t hj
    match j, hj with
    | 0, hj => simp at hj; subst hj; simpa [Addr.add] using hc
  · intro t ht
    simp at ht
    subst ht
    exact hu
  · intro v' w' h1 h2 _
    refine h v' w' ?_ h2
    unfold OwnV
    rw [List.length_append]
    exact h1

theorem slice_one {v : Value} {w : World} {base : Nat} {l : List UInt8} (h : Own w base v l) : v.oneCell' = true := by
  obtain ⟨a, c, rfl⟩ := h.shape
  rfl
theorem litV (w : World) (u : Value) (t : TypeId) : (w.alloc (.cells #[u] t)).cell? ⟨w.heap.size, 0, none⟩ = some u := by
  rw [World.cell?_alloc_at _ _ _ _ rfl]; rfl

/-- blocks that rise -/
def Rise (vals : List Value) : Prop := (∀ i, i < vals.length → ∃ b, (vals.getD i undef).ownBlock = some b) ∧ ∀ i j b c, i < j → j < vals.length → (vals.getD i undef).ownBlock = some b → (vals.getD j undef).ownBlock = some c → b < c
theorem Rise.nil : Rise [] := ⟨fun i hi => by simp at hi, fun i j b c _ hj => by simp at hj⟩
theorem Rise.snoc {w w' : World} {base : Nat} {vals : List Value} {ls : List (List UInt8)} {u : Value} {l : List UInt8} (h : Rise vals) (he : Els w base vals ls) (hu : Own w' w.heap.size u l) (hb : ∃ b, u.ownBlock = some b) : Rise (vals ++ [u]) := by
  have e1 : ∀ i, i < vals.length → (vals ++ [u]).getD i undef = vals.getD i undef := fun i hi => by simp only [List.getD, List.getElem?_append_left hi]
  have e2 : (vals ++ [u]).getD vals.length undef = u := by simp
  refine ⟨fun i hi => ?_, fun i j b c hij hj h1 h2 => ?_⟩
  · simp only [List.length_append, List.length_cons, List.length_nil] at hi
    by_cases hlt : i < vals.length
    · rw [e1 i hlt]; exact h.1 i hlt
    · obtain rfl : i = vals.length := by omega
      rw [e2]; exact hb
  · simp only [List.length_append, List.length_cons, List.length_nil] at hj
    by_cases hlt : j < vals.length
    · rw [e1 j hlt] at h2
      rw [e1 i (by omega)] at h1
      exact h.2 i j b c hij hlt h1 h2
    · obtain rfl : j = vals.length := by omega
      rw [e2] at h2
      rw [e1 i (by omega)] at h1
      have := (he.2 i (by omega)).lt b h1
      have := hu.lt c h2
      omega

theorem ret_v3 {v : Value} {a b c d : Int} (h1 : a = c) (h2 : b = d) : Ending.returned (.tuple #[v, .int .i64 a, .int .i64 b]) = .returned (.tuple #[v, .int .i64 c, .int .i64 d]) := by rw [h1, h2]

set_option maxHeartbeats 3200000 in
theorem frames_any (v : Value) (l : List UInt8) (w : World) (hv : Rd w v l) (hT : TabIn w) (hsz : l.length ≤ 16777216) :
    Calls Tryd.prog 34 #[v] w fun x w' => ∃ s vals, x = .returned (.tuple #[s, .int .i64 ((frames l).2.1 : Int), .int .i64 (frames l).2.2]) ∧ OwnV w' w.heap.size s vals ∧ Els w' w.heap.size vals (frames l).1 ∧ Rise vals ∧ w.grownBy w' none := by
  have hv2 : Hid (Rd w v l) := hv
  have hT2 : Hid (TabIn w) := hT
  obtain ⟨a, c, rfl, hn, hm, hb, hz⟩ := hv
  clear hT hb hz hm hn
  go_enter Tryd.func34, Tryd.ntmps34
  go_wp2
  go_step3
  go_wp2
  go_step3
  go_wp2
  go_loopw [5, 6, 7] (fun s i e wr => ∃ p : Nat, p ≤ l.length ∧ i = .int .i64 p ∧ e = .int .i64 0 ∧ Hid (∃ vals acc f, OwnV wr w.heap.size s vals ∧ Els wr w.heap.size vals acc ∧ Rise vals ∧ w.grownBy wr none ∧ l.length - p < f ∧ frames l = frs l f p acc ∧ acc.length ≤ p)) (fun _ i _ _ => l.length - (intOf i).toNat)
  case atStart => exact ⟨0, by omega, rfl, rfl, [], [], l.length + 1, OwnV.nil _ _, ⟨rfl, fun i hi => by simp at hi⟩, Rise.nil, gb_refl _ _, by omega, rfl, by simp⟩
  case round =>
    obtain ⟨p, hp, rfl, rfl, hr⟩ := hrel
    obtain ⟨vals, acc, f, ho, hels, hrise, hg, hf, hfr, hacc⟩ := hr.out
    clear hr
    have hvl := hels.1
    by_cases hlt : p < l.length
    · cases hfs : fSpec l (p : Int) with
      | error e =>
        have hend : Hid (frames l = (acc, p, e)) := hfr.trans (frs_err hf hlt hfs)
        have hne : (e == 0) = false := by simp; exact fSpec_err hfs
        have H : Hid (OwnV wr w.heap.size u5 vals ∧ Els wr w.heap.size vals acc ∧ Rise vals ∧ w.grownBy wr none ∧ fSpec l (p : Int) = .error e) := ⟨ho, hels, hrise, hg, hfs⟩
        clear ho hels hrise hg hfs hfr hf hacc hvl
        go_wp2_with fail
        refine (frame_err _ l p e _ (hv2.out.keep H.out.2.2.2.1) (hT2.out.keep0 H.out.2.2.2.1) H.out.2.2.2.2).mono ?_
        rintro x w1 ⟨rfl, hg1⟩
        have H1 : Hid (OwnV w1 w.heap.size u5 vals ∧ Els w1 w.heap.size vals acc ∧ Rise vals ∧ w.grownBy w1 none) := ⟨H.out.1.keep hg1, H.out.2.1.keep hg1, H.out.2.2.1, gb_none H.out.2.2.2.1 hg1⟩
        clear hg1 H
        go_wp2
        try rw [Exit.noGoto_ret]
        go_ret3
        rw [hend.out]
        exact ⟨_, vals, rfl, H1.out⟩
      | ok r =>
        obtain ⟨q, k⟩ := r
        have hk := fSpec_ok hfs
        obtain ⟨f', hf', hfr'⟩ := frs_ok (acc := acc) hf hlt hfs
        have H : Hid (OwnV wr w.heap.size u5 vals ∧ Els wr w.heap.size vals acc ∧ Rise vals ∧ w.grownBy wr none ∧ fSpec l (p : Int) = .ok (q, k) ∧ l.length - k < f' ∧ frames l = frs l f' k (acc ++ [q])) := ⟨ho, hels, hrise, hg, hfs, hf', hfr.trans hfr'⟩
        have hal : vals.length ≤ 16777216 := by omega
        have hacc' : acc.length + 1 ≤ k := by omega
        have hkl : k ≤ l.length := hk.2.2.1
        have hpk : p < k := by omega
        clear ho hels hrise hg hfs hfr hf hacc hvl hf' hfr' hk
        go_wp2_with fail
        refine (frame_ok _ l p q k _ (hv2.out.keep H.out.2.2.2.1) (hT2.out.keep0 H.out.2.2.2.1) H.out.2.2.2.2.1).mono ?_
        rintro x w1 ⟨v1, rfl, ho1, hg1, hb1⟩
        obtain ⟨a1, c1, rfl⟩ := ho1.shape
        have H1 : Hid (OwnV w1 w.heap.size u5 vals ∧ Els w1 w.heap.size (vals ++ [.slice a1 q.length c1]) (acc ++ [q]) ∧ Rise (vals ++ [.slice a1 q.length c1]) ∧ w.grownBy w1 none ∧ (Value.slice a1 q.length c1).oneCell' = true) :=
          ⟨H.out.1.keep hg1, (H.out.2.1.keep hg1).snoc (ho1.mono H.out.2.2.2.1.size), H.out.2.2.1.snoc H.out.2.1 ho1 hb1, gb_none H.out.2.2.2.1 hg1, slice_one ho1⟩
        have H2 : Hid (l.length - k < f' ∧ frames l = frs l f' k (acc ++ [q])) := H.out.2.2.2.2.2
        clear ho1 hg1 hb1 H
        go_wp2_with (at_builtin; refine wp_appV rfl _ _ rfl w.heap.size _ vals _ _ rfl rfl (litV _ _ _) H1.out.2.2.2.2 (H1.out.1.keep (alloc_gb _ _)) hal ?c1 ?_)
        case c1 => have := H1.out.2.2.2.1.size; first | omega | (simp; omega)
        intro v2 w2 ho2 hg2
        have H3 : Hid (OwnV w2 w.heap.size v2 (vals ++ [.slice a1 q.length c1]) ∧ Els w2 w.heap.size (vals ++ [.slice a1 q.length c1]) (acc ++ [q]) ∧ Rise (vals ++ [.slice a1 q.length c1]) ∧ w.grownBy w2 none) :=
          ⟨ho2, (H1.out.2.1.keep (alloc_gb _ _)).keptV (H1.out.1.keep (alloc_gb _ _)) hg2, H1.out.2.2.1, gb_new (gb_none H1.out.2.2.2.1 (alloc_gb _ _)) hg2 (fun k hk => (H1.out.1.lt k hk).1)⟩
        clear ho2 hg2 H1
        go_wp2
        go_roundw
        case rel => exact ⟨k, hkl, rfl, rfl, vals ++ [.slice a1 q.length c1], acc ++ [q], f', H3.out.1, H3.out.2.1, H3.out.2.2.1, H3.out.2.2.2, H2.out.1, H2.out.2, by simpa using hacc'⟩
        case measure => simp [intOf]; omega
    · have hend : Hid (frames l = (acc, p, 0)) := hfr.trans (frs_end hlt)
      have H1 : Hid (OwnV wr w.heap.size u5 vals ∧ Els wr w.heap.size vals acc ∧ Rise vals ∧ w.grownBy wr none) := ⟨ho, hels, hrise, hg⟩
      clear ho hels hrise hg hfr hf hacc hvl
      go_wp2
      try rw [Exit.noGoto_ret]
      go_ret3
      rw [hend.out]
      exact ⟨_, vals, rfl, H1.out⟩
end Go.Proofs.YtgbpnkamamafjaaDoor
