/-
  What the document's Frames and SameAll come to: the walks.
-/
import Derived.Test.YtgbpnkamamafjaaDoorLists
namespace Go.Proofs.YtgbpnkamamafjaaDoor
open Go.RowKit

set_option maxHeartbeats 3200000 in
theorem refFrames_any (v : Value) (l : List UInt8) (w : World) (hv : Rd w v l) (hsz : l.length ≤ 16777216) :
    Calls Tryd.prog 35 #[v] w fun x w' => ∃ s vals, x = .returned (.tuple #[s, .int .i64 ((frames l).2.1 : Int), .int .i64 (frames l).2.2]) ∧ OwnV w' w.heap.size s vals ∧ Els w' w.heap.size vals (frames l).1 ∧ w.grownBy w' none := by
  have hv2 : Hid (Rd w v l) := hv
  obtain ⟨a, c, rfl, hn, hm, hb, hz⟩ := hv
  clear hb hz hm hn
  go_enter Tryd.func35, Tryd.ntmps35
  go_wp2
  go_loopw [5, 6] (fun s i wr => ∃ p : Nat, p ≤ l.length ∧ i = .int .i64 p ∧ Hid (∃ vals acc f, OwnV wr w.heap.size s vals ∧ Els wr w.heap.size vals acc ∧ w.grownBy wr none ∧ l.length - p < f ∧ frames l = frs l f p acc ∧ acc.length ≤ p)) (fun _ i _ => l.length - (intOf i).toNat)
  case atStart => exact ⟨0, by omega, rfl, [], [], l.length + 1, OwnV.nil _ _, ⟨rfl, fun i hi => by simp at hi⟩, gb_refl _ _, by omega, rfl, by simp⟩
  case round =>
    obtain ⟨p, hp, rfl, hr⟩ := hrel
    obtain ⟨vals, acc, f, ho, hels, hg, hf, hfr, hacc⟩ := hr.out
    clear hr
    have hvl := hels.1
    by_cases hlt : p < l.length
    · cases hfs : fSpec l (p : Int) with
      | error e =>
        have hend : Hid (frames l = (acc, p, e)) := hfr.trans (frs_err hf hlt hfs)
        have hne : (e != 0) = true := by rw [bne_iff_ne]; exact fSpec_err hfs
        have H : Hid (OwnV wr w.heap.size u5 vals ∧ Els wr w.heap.size vals acc ∧ w.grownBy wr none ∧ fSpec l (p : Int) = .error e) := ⟨ho, hels, hg, hfs⟩
        clear ho hels hg hfs hfr hf hacc hvl
        go_wp2_with fail
        refine (refFrame_err _ l p e _ (hv2.out.keep H.out.2.2.1) H.out.2.2.2).mono ?_
        rintro x w1 ⟨rfl, hg1⟩
        have H1 : Hid (OwnV w1 w.heap.size u5 vals ∧ Els w1 w.heap.size vals acc ∧ w.grownBy w1 none) := ⟨H.out.1.keep hg1, H.out.2.1.keep hg1, gb_none H.out.2.2.1 hg1⟩
        clear hg1 H
        go_wp2
        try rw [Exit.noGoto_ret]
        go_ret3
        rw [hend.out]
        exact ⟨_, vals, rfl, H1.out⟩
      | ok r =>
        obtain ⟨q, k⟩ := r
        have hk := fSpec_ok hfs
        obtain ⟨f', hf', hfr'⟩ := frs_ok (acc := acc) hf hlt hfs
        have H : Hid (OwnV wr w.heap.size u5 vals ∧ Els wr w.heap.size vals acc ∧ w.grownBy wr none ∧ fSpec l (p : Int) = .ok (q, k) ∧ l.length - k < f' ∧ frames l = frs l f' k (acc ++ [q])) := ⟨ho, hels, hg, hfs, hf', hfr.trans hfr'⟩
        have hal : vals.length ≤ 16777216 := by omega
        have hacc' : acc.length + 1 ≤ k := by omega
        have hkl : k ≤ l.length := hk.2.2.1
        have hpk : p < k := by omega
        clear ho hels hg hfs hfr hf hacc hvl hf' hfr' hk
        go_wp2_with fail
        refine (refFrame_ok _ l p q k _ (hv2.out.keep H.out.2.2.1) H.out.2.2.2.1).mono ?_
        rintro x w1 ⟨v1, rfl, ho1, hg1⟩
        obtain ⟨a1, c1, rfl⟩ := ho1.shape
        have H1 : Hid (OwnV w1 w.heap.size u5 vals ∧ Els w1 w.heap.size (vals ++ [.slice a1 q.length c1]) (acc ++ [q]) ∧ w.grownBy w1 none ∧ (Value.slice a1 q.length c1).oneCell' = true) :=
          ⟨H.out.1.keep hg1, (H.out.2.1.keep hg1).snoc (ho1.mono H.out.2.2.1.size), gb_none H.out.2.2.1 hg1, slice_one ho1⟩
        have H2 : Hid (l.length - k < f' ∧ frames l = frs l f' k (acc ++ [q])) := H.out.2.2.2.2
        clear ho1 hg1 H
        go_wp2_with (at_builtin; refine wp_appV rfl _ _ rfl w.heap.size _ vals _ _ rfl rfl (litV _ _ _) H1.out.2.2.2 (H1.out.1.keep (alloc_gb _ _)) hal ?c1 ?_)
        case c1 => have := H1.out.2.2.1.size; first | omega | (simp; omega)
        intro v2 w2 ho2 hg2
        have H3 : Hid (OwnV w2 w.heap.size v2 (vals ++ [.slice a1 q.length c1]) ∧ Els w2 w.heap.size (vals ++ [.slice a1 q.length c1]) (acc ++ [q]) ∧ w.grownBy w2 none) :=
          ⟨ho2, (H1.out.2.1.keep (alloc_gb _ _)).keptV (H1.out.1.keep (alloc_gb _ _)) hg2, gb_new (gb_none H1.out.2.2.1 (alloc_gb _ _)) hg2 (fun k hk => (H1.out.1.lt k hk).1)⟩
        clear ho2 hg2 H1
        go_wp2
        go_roundw
        case rel => exact ⟨k, hkl, rfl, vals ++ [.slice a1 q.length c1], acc ++ [q], f', H3.out.1, H3.out.2.1, H3.out.2.2, H2.out.1, H2.out.2, by simpa using hacc'⟩
        case measure => simp [intOf]; omega
    · have hend : Hid (frames l = (acc, p, 0)) := hfr.trans (frs_end hlt)
      have H1 : Hid (OwnV wr w.heap.size u5 vals ∧ Els wr w.heap.size vals acc ∧ w.grownBy wr none) := ⟨ho, hels, hg⟩
      clear ho hels hg hfr hf hacc hvl
      go_wp2
      try rw [Exit.noGoto_ret]
      go_ret3
      rw [hend.out]
      exact ⟨_, vals, rfl, H1.out⟩

theorem drewN_two (w : World) (m n : Nat) : (w.drewN m).drewN n = w.drewN (m + n) := by
  simp [World.drewN, Nat.add_assoc]

/-- a row of slices that has some: its shape, and each of them -/
theorem OwnV.form {w : World} {base : Nat} {v : Value} {vals : List Value} (h : OwnV w base v vals) (hl : vals ≠ []) : ∃ g cap, v = .slice (some ⟨g, 0, none⟩) vals.length cap ∧ base ≤ g ∧ vals.length ≤ cap ∧ cap ≤ maxLen ∧ ∀ j, j < vals.length → w.cell? ⟨g, j, none⟩ = some (vals.getD j undef) := by
  have h0 := h
  rcases h.2 with ⟨rfl, hn⟩ | ⟨g, cap, cur, rfl, hg, hh, hnc, hcm, hcs, ht⟩
  · exact absurd (List.eq_nil_of_length_eq_zero hn) hl
  · refine ⟨g, cap, rfl, hg, hnc, hcm, fun j hj => ?_⟩
    have := World.ownsRow.cellAt h0 j (by omega)
    rw [this]
    simp [hj]
theorem OwnV.shape {w : World} {base : Nat} {v : Value} {vals : List Value} (h : OwnV w base v vals) : ∃ a c, v = .slice a vals.length c := by
  rcases h.2 with ⟨rfl, hn⟩ | ⟨g, cap, cur, rfl, _⟩
  · exact ⟨none, 0, by rw [hn]⟩
  · exact ⟨_, _, rfl⟩
theorem take_eq_succ {a b : List (List UInt8)} {k : Nat} (ha : k < a.length) (hb : k < b.length) (h : a.take k = b.take k) (he : a.getD k [] = b.getD k []) : a.take (k + 1) = b.take (k + 1) := by
  rw [List.take_succ_eq_append_getElem ha, List.take_succ_eq_append_getElem hb, h]
  simp [ha, hb] at he
  rw [he]

set_option maxHeartbeats 3200000 in
theorem sameAll_any (v u : Value) (base1 base2 : Nat) (vals1 vals2 : List Value) (ls : List (List UInt8)) (w : World) (hv : OwnV w base1 v vals1) (hu : OwnV w base2 u vals2) (h1 : Els w base1 vals1 ls) (h2 : Els w base2 vals2 ls) (hsz : ls.length ≤ 16777216) :
    Calls Tryd.prog 36 #[v, u] w fun e w' => e = .returned (.bool true) ∧ w.grownBy w' none := by
  have n1 := h1.1
  have n2 := h2.1
  obtain ⟨a1, c1, hs1⟩ := hv.shape
  obtain ⟨a2, c2, hs2⟩ := hu.shape
  rw [n1] at hs1
  rw [n2] at hs2
  subst hs1
  subst hs2
  have HA : Hid (∀ j, j < ls.length → ∃ g g2, a1 = some ⟨g, 0, none⟩ ∧ a2 = some ⟨g2, 0, none⟩ ∧ w.cell? ⟨g, j, none⟩ = some (vals1.getD j undef) ∧ w.cell? ⟨g2, j, none⟩ = some (vals2.getD j undef) ∧ Rd w (vals1.getD j undef) (ls.getD j []) ∧ Rd w (vals2.getD j undef) (ls.getD j [])) := by
    intro j hj
    obtain ⟨g, cap, e1, -, -, -, hc1⟩ := hv.form (by intro h; rw [h] at n1; simp at n1; omega)
    obtain ⟨g2, cap2, e2, -, -, -, hc2⟩ := hu.form (by intro h; rw [h] at n2; simp at n2; omega)
    simp only [Value.slice.injEq] at e1 e2
    exact ⟨g, g2, e1.1, e2.1, hc1 j (by omega), hc2 j (by omega), (h1.2 j (by omega)).rd, (h2.2 j (by omega)).rd⟩
  clear hv hu h1 h2 n1 n2
  go_enter Tryd.func36, Tryd.ntmps36
  go_wp2
  go_loopw [5] (fun i wr => ∃ k : Nat, k ≤ ls.length ∧ i = .int .i64 k ∧ Hid (∃ m, wr = w.drewN m)) (fun i _ => ls.length - (intOf i).toNat)
  case atStart => exact ⟨0, by omega, rfl, 0, rfl⟩
  case round =>
    obtain ⟨k, hk, rfl, hd⟩ := hrel
    by_cases hlt : k < ls.length
    · obtain ⟨g, g2, rfl, rfl, hc1, hc2, r1, r2⟩ := HA.out k hlt
      have d1 : wr.cell? ⟨g, k, none⟩ = some (vals1.getD k undef) := by obtain ⟨m, rfl⟩ := hd.out; exact hc1
      have d2 : wr.cell? ⟨g2, k, none⟩ = some (vals2.getD k undef) := by obtain ⟨m, rfl⟩ := hd.out; exact hc2
      have HR : Hid (Rd wr (vals1.getD k undef) (ls.getD k []) ∧ Rd wr (vals2.getD k undef) (ls.getD k [])) := by
        obtain ⟨m, rfl⟩ := hd.out
        exact ⟨r1.keep (gb_drewN _ _ _), r2.keep (gb_drewN _ _ _)⟩
      clear r1 r2 HA hc1 hc2
      generalize vals1.getD k undef = x1 at *
      generalize vals2.getD k undef = x2 at *
      generalize ls.getD k [] = q at *
      have HS : Hid (∀ n, Calls Tryd.prog 12 #[x1, x2] (wr.drewN n) fun e w' => e = .returned (.bool true) ∧ ∃ m, w' = (wr.drewN n).drewN m) := fun n =>
        (same_quiet x1 x2 q q (wr.drewN n) (HR.out.1.keep (gb_drewN _ _ _)) (HR.out.2.keep (gb_drewN _ _ _))).mono fun e w' ⟨he, hm⟩ => ⟨by rw [he, decide_eq_true rfl], hm⟩
      clear HR
      go_wp2
      go_quiet ((go_at_call 12; exact Calls.quiet_of (HS.out _)))
      go_wp2
      go_roundw
      case rel => exact ⟨k + 1, by omega, by go_num, by obtain ⟨m, rfl⟩ := hd.out; exact ⟨_, drewN_two _ _ _⟩⟩
      case measure => simp [intOf]; omega
    · clear HA
      go_wp2
      go_ret
      exact ⟨rfl, by obtain ⟨m, rfl⟩ := hd.out; exact gb_drewN _ _ _⟩
end Go.Proofs.YtgbpnkamamafjaaDoor
