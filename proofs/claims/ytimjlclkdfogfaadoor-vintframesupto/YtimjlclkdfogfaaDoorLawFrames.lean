/-
  VintFrames is true for every input of bulk at most 1048576: what vint.PutFrame, Frame and Frames answer is the document's answer, at any bytes, content and place, and what is handed in stays.
-/
import Derived.Test.YtimjlclkdfogfaaDoorLift
import Derived.Test.YtimjlclkdfogfaaDoorRefPutF
import Derived.Test.YtimjlclkdfogfaaDoorLists2
namespace Go.Proofs.YtimjlclkdfogfaaDoor
open Go.ChangeShapes Go.WideShapes Go.ChangeAt Go.RowKit

theorem getD_els {w : World} {base : Nat} {vals : List Value} {ls : List (List UInt8)} (h : Els w base vals ls) {z : Nat} (hz : z < vals.length) : Own w base (vals.getD z undef) (ls.getD z []) := h.2 z hz

/-- spoiling one of several rows leaves those behind it -/
theorem spoil_rest {w w' : World} {base : Nat} {vals : List Value} {ls : List (List UInt8)} {z : Nat} (hr : Rise vals) (h : ∀ i, z ≤ i → i < vals.length → Own w base (vals.getD i undef) (ls.getD i [])) (hz : z < vals.length) (hg : w.grownBy w' (vals.getD z undef).ownBlock) :
    ∀ i, z + 1 ≤ i → i < vals.length → Own w' base (vals.getD i undef) (ls.getD i []) := by
  intro i hi hlt
  refine (h i (by omega) hlt).kept hg (.inr ?_)
  obtain ⟨b, hb⟩ := hr.1 z hz
  obtain ⟨c, hc⟩ := hr.1 i hlt
  have := hr.2 z i b c (by omega) hlt hb hc
  rw [hb, hc]
  simp only [ne_eq, Option.some.injEq]
  omega

theorem frames_bound (l : List UInt8) : ∀ (f p : Nat) (acc : List (List UInt8)), p ≤ l.length → acc.length ≤ p → (∀ q ∈ acc, q.length ≤ l.length) → (frs l f p acc).1.length ≤ l.length ∧ ∀ q ∈ (frs l f p acc).1, q.length ≤ l.length := by
  intro f
  induction f with
  | zero => intro p acc hp ha hq; exact ⟨by simp only [frs]; omega, hq⟩
  | succ f ih =>
    intro p acc hp ha hq
    rw [frs]
    by_cases h : p < l.length
    · rw [if_pos h]
      cases hs : fSpec l (p : Int) with
      | error e => exact ⟨by simp only []; omega, hq⟩
      | ok r =>
        obtain ⟨q, k⟩ := r
        have hk := fSpec_ok hs
        refine ih k (acc ++ [q]) hk.2.2.1 (by simp; omega) ?_
        intro x hx
        rcases List.mem_append.1 hx with hx | hx
        · exact hq x hx
        · simp at hx
          subst hx
          exact hk.2.2.2.2
    · rw [if_neg h]
      exact ⟨by simp only []; omega, hq⟩
theorem frames_len (l : List UInt8) : (frames l).1.length ≤ l.length ∧ ∀ q ∈ (frames l).1, q.length ≤ l.length := frames_bound l _ 0 [] (by omega) (by simp) (by simp)
theorem getD_len {ls : List (List UInt8)} {n : Nat} (h : ∀ q ∈ ls, q.length ≤ n) (z : Nat) : (ls.getD z []).length ≤ n := by
  by_cases hz : z < ls.length
  · have : ls.getD z [] = ls[z] := by simp [hz]
    rw [this]
    exact h _ (List.getElem_mem hz)
  · have : ls.getD z [] = [] := by simp [List.getD, List.getElem?_eq_none (by omega : ls.length ≤ z)]
    rw [this]
    simp

/-! ### one contract for every way -/
def pfSpec (l p : List UInt8) : List UInt8 × Int := if p.length ≤ 65536 then (l ++ frame p, 0) else ([], 4)
theorem putFrame_un (v u : Value) (l p : List UInt8) (w : World) (hv : Rd w v l) (hu : Rd w u p) (hT : TabIn w) (hsz : l.length ≤ 175921000000000) :
    Calls Tryd.prog 30 #[v, u] w fun e w' => ∃ v', e = .returned (.tuple #[v', .int .i64 (pfSpec l p).2]) ∧ Own w' w.heap.size v' (pfSpec l p).1 ∧ w.grownBy w' none := by
  by_cases h : p.length ≤ 65536
  · have e : pfSpec l p = (l ++ frame p, 0) := if_pos h
    rw [e]
    exact putFrame_ok v u l p w hv hu hT h hsz
  · have e : pfSpec l p = ([], 4) := if_neg h
    rw [e]
    exact (putFrame_big v u l p w hv hu (by omega)).mono fun e w' ⟨h1, h2⟩ => ⟨_, h1, Own.nil _ _, by rw [h2]; exact gb_refl _ _⟩
theorem refPutFrame_un (v u : Value) (l p : List UInt8) (w : World) (hv : Rd w v l) (hu : Rd w u p) (hsz : l.length ≤ 175921000000000) :
    Calls Tryd.prog 31 #[v, u] w fun e w' => ∃ v', e = .returned (.tuple #[v', .int .i64 (pfSpec l p).2]) ∧ Own w' w.heap.size v' (pfSpec l p).1 ∧ w.grownBy w' none := by
  by_cases h : p.length ≤ 65536
  · have e : pfSpec l p = (l ++ frame p, 0) := if_pos h
    rw [e]
    exact refPutFrame_ok v u l p w hv hu h hsz
  · have e : pfSpec l p = ([], 4) := if_neg h
    rw [e]
    exact (refPutFrame_big v u l p w hv hu (by omega)).mono fun e w' ⟨h1, h2⟩ => ⟨_, h1, Own.nil _ _, by rw [h2]; exact gb_refl _ _⟩
theorem frame_length (p : List UInt8) (h : p.length ≤ 65536) : (frame p).length ≤ 65550 := by
  have := uv_len64 (BitVec.ofNat 64 p.length)
  rw [ofNat_len (by omega)] at this
  unfold frame
  simp only [List.length_append]
  have h4 : (le4 (crc p)).length = 4 := rfl
  omega
theorem pfSpec_len (l p : List UInt8) : (pfSpec l p).1.length ≤ l.length + 65550 := by
  unfold pfSpec
  split
  · rename_i h
    have := frame_length p h
    simp
    omega
  · simp
def fRes (l : List UInt8) (a : Int) : List UInt8 × Int × Int :=
  match fSpec l a with
  | .ok (q, k) => (q, (k : Int), 0)
  | .error e => ([], 0, e)
theorem frame_un (v : Value) (l : List UInt8) (a : Int) (w : World) (hv : Rd w v l) (hT : TabIn w) :
    Calls Tryd.prog 32 #[v, .int .i64 a] w fun x w' => ∃ v', x = .returned (.tuple #[v', .int .i64 (fRes l a).2.1, .int .i64 (fRes l a).2.2]) ∧ Own w' w.heap.size v' (fRes l a).1 ∧ w.grownBy w' none := by
  cases h : fSpec l a with
  | ok r =>
    obtain ⟨q, k⟩ := r
    have e : fRes l a = (q, (k : Int), 0) := by unfold fRes; rw [h]
    rw [e]
    exact (frame_ok v l a q k w hv hT h).mono fun x w' ⟨v', h1, h2, h3, _⟩ => ⟨v', h1, h2, h3⟩
  | error er =>
    have e : fRes l a = ([], 0, er) := by unfold fRes; rw [h]
    rw [e]
    exact (frame_err v l a er w hv hT h).mono fun x w' ⟨h1, h2⟩ => ⟨_, h1, Own.nil _ _, h2⟩
theorem refFrame_un (v : Value) (l : List UInt8) (a : Int) (w : World) (hv : Rd w v l) :
    Calls Tryd.prog 33 #[v, .int .i64 a] w fun x w' => ∃ v', x = .returned (.tuple #[v', .int .i64 (fRes l a).2.1, .int .i64 (fRes l a).2.2]) ∧ Own w' w.heap.size v' (fRes l a).1 ∧ w.grownBy w' none := by
  cases h : fSpec l a with
  | ok r =>
    obtain ⟨q, k⟩ := r
    have e : fRes l a = (q, (k : Int), 0) := by unfold fRes; rw [h]
    rw [e]
    exact refFrame_ok v l a q k w hv h
  | error er =>
    have e : fRes l a = ([], 0, er) := by unfold fRes; rw [h]
    rw [e]
    exact (refFrame_err v l a er w hv h).mono fun x w' ⟨h1, h2⟩ => ⟨_, h1, Own.nil _ _, h2⟩
theorem fRes_len (l : List UInt8) (a : Int) : (fRes l a).1.length ≤ l.length := by
  unfold fRes
  cases h : fSpec l a with
  | ok r => exact (fSpec_ok h).2.2.2.2
  | error e => simp
theorem OwnV.keptE {w w' : World} {base base' : Nat} {v u : Value} {vals : List Value} {l : List UInt8} (h : OwnV w base v vals) (hu : Own w base' u l) (hg : w.grownBy w' u.ownBlock) : OwnV w' base v vals := by
  refine World.ownsRow.kept h hg ?_
  rcases h.apart hu with h1 | h1
  · cases hv : v.ownBlock with
    | none => exact .inl rfl
    | some k => right; rw [h1]; simp
  · exact .inr (fun e => h1 e.symm)

set_option maxHeartbeats 6400000 in
theorem frames_walk (v u : Value) (l p : List UInt8) (a : Int) (w : World) (hv : Rd w v l) (hu : Rd w u p) (hT : TabIn w) (hl : l.length ≤ 1048576) (hp : p.length ≤ 1048576) :
    Calls Tryd.prog 6 #[v, u, .int .i64 a] w fun e w' => e = .returned (.bool true) ∧ Below w.heap.size w w' := by
  have hv2 : Hid (Rd w v l) := hv
  have hu2 : Hid (Rd w u p) := hu
  have hT2 : Hid (TabIn w) := hT
  have hpf := pfSpec_len l p
  have hfr := fRes_len l a
  have hfs := frames_len l
  have HFS : Hid ((frames l).1.length ≤ l.length ∧ ∀ q ∈ (frames l).1, q.length ≤ l.length) := hfs
  clear hv hu hT hfs
  go_enter Tryd.func6, Tryd.ntmps6
  go_wp2_with fail
  refine (lent_any v l _ hv2.out (by omega)).mono ?_
  rintro e w1 ⟨v1, rfl, hl1, hg1⟩
  have H1 : Hid (LentAs w1 w.heap.size v1 l ∧ w.grownBy w1 none) := ⟨hl1, hg1⟩
  clear hl1 hg1
  go_wp2_with fail
  refine (lent_any u p _ (hu2.out.keep H1.out.2) (by omega)).mono ?_
  rintro e w2 ⟨v2, rfl, hl2, hg2⟩
  have H2 : Hid (LentAs w2 w1.heap.size v2 p ∧ LentAs w2 w.heap.size v1 l ∧ w.grownBy w2 none) := ⟨hl2, H1.out.1.keep hg2, gb_none H1.out.2 hg2⟩
  clear hl2 hg2 H1
  go_wp2_with fail
  refine (putFrame_un v1 v2 l p _ H2.out.2.1.rd H2.out.1.rd (hT2.out.keep0 H2.out.2.2) (by omega)).mono ?_
  rintro e w3 ⟨v3, rfl, ho3, hg3⟩
  have H3 : Hid (Own w3 w2.heap.size v3 (pfSpec l p).1 ∧ w2.grownBy w3 none) := ⟨ho3, hg3⟩
  clear ho3 hg3
  go_wp2_with fail
  refine (refPutFrame_un v u l p _ ((hv2.out.keep H2.out.2.2).keep H3.out.2) ((hu2.out.keep H2.out.2.2).keep H3.out.2) (by omega)).mono ?_
  rintro e w4 ⟨v4, rfl, ho4, hg4⟩
  have H4 : Hid (Rd w4 v4 (pfSpec l p).1 ∧ w3.grownBy w4 none) := ⟨ho4.rd, hg4⟩
  clear ho4 hg4
  go_wp2_with fail
  refine (same_any v3 v4 (pfSpec l p).1 (pfSpec l p).1 _ (H3.out.1.rd.keep H4.out.2) H4.out.1).mono ?_
  rintro e w5 ⟨he, hg5⟩
  rw [decide_eq_true rfl] at he
  subst he
  have H5 : Hid (w3.grownBy w5 none) := gb_none H4.out.2 hg5
  clear hg5 H4
  go_wp2_with fail
  refine (kept_any v2 u w1.heap.size p _ ((H2.out.1.keep H3.out.2).keep H5.out) (((hu2.out.keep H2.out.2.2).keep H3.out.2).keep H5.out)).mono ?_
  rintro e w6 ⟨rfl, hg6⟩
  have H6 : Hid (w3.grownBy w6 none) := gb_none H5.out hg6
  clear hg6 H5
  go_wp2_with fail
  refine (spoil_any v3 w2.heap.size (pfSpec l p).1 _ (H3.out.1.keep H6.out) (by have := H3.out.2.size; have := H6.out.size; omega) (by omega)).mono ?_
  rintro e w7 ⟨rfl, hg7⟩
  have H7 : Hid (w2.grownBy w7 none) := gb_new (gb_none H3.out.2 H6.out) hg7 (fun k hk => (H3.out.1.lt k hk).1)
  clear hg7 H6 H3
  go_wp2_with fail
  refine (frame_un v1 l a _ (H2.out.2.1.rd.keep H7.out) ((hT2.out.keep0 H2.out.2.2).keep0 H7.out)).mono ?_
  rintro e w8 ⟨v8, rfl, ho8, hg8⟩
  have H8 : Hid (Own w8 w7.heap.size v8 (fRes l a).1 ∧ w7.grownBy w8 none) := ⟨ho8, hg8⟩
  clear ho8 hg8
  go_wp2_with fail
  refine (refFrame_un v l a _ (((hv2.out.keep H2.out.2.2).keep H7.out).keep H8.out.2)).mono ?_
  rintro e w9 ⟨v9, rfl, ho9, hg9⟩
  have H9 : Hid (Rd w9 v9 (fRes l a).1 ∧ w8.grownBy w9 none) := ⟨ho9.rd, hg9⟩
  clear ho9 hg9
  go_wp2_with fail
  refine (same_any v8 v9 (fRes l a).1 (fRes l a).1 _ (H8.out.1.rd.keep H9.out.2) H9.out.1).mono ?_
  rintro e w10 ⟨he, hg10⟩
  rw [decide_eq_true rfl] at he
  subst he
  have H10 : Hid (w8.grownBy w10 none) := gb_none H9.out.2 hg10
  clear hg10 H9
  go_wp2_with fail
  refine (spoil_any v8 w7.heap.size (fRes l a).1 _ (H8.out.1.keep H10.out) (by have := H8.out.2.size; have := H10.out.size; omega) (by omega)).mono ?_
  rintro e w11 ⟨rfl, hg11⟩
  have H11 : Hid (w2.grownBy w11 none) := gb_none H7.out (gb_new (gb_none H8.out.2 H10.out) hg11 (fun k hk => (H8.out.1.lt k hk).1))
  clear hg11 H10 H8 H7
  go_wp2_with fail
  refine (frames_any v1 l _ (H2.out.2.1.rd.keep H11.out) ((hT2.out.keep0 H2.out.2.2).keep0 H11.out) (by omega)).mono ?_
  rintro e w12 ⟨s, vals, rfl, ho12, he12, hr12, hg12⟩
  have H12 : Hid (OwnV w12 w11.heap.size s vals ∧ Els w12 w11.heap.size vals (frames l).1 ∧ Rise vals ∧ w11.grownBy w12 none) := ⟨ho12, he12, hr12, hg12⟩
  clear ho12 he12 hr12 hg12
  go_wp2_with fail
  refine (refFrames_any v l _ (((hv2.out.keep H2.out.2.2).keep H11.out).keep H12.out.2.2.2) (by omega)).mono ?_
  rintro e w13 ⟨s2, vals2, rfl, ho13, he13, hg13⟩
  have H13 : Hid (OwnV w13 w12.heap.size s2 vals2 ∧ Els w13 w12.heap.size vals2 (frames l).1 ∧ w12.grownBy w13 none) := ⟨ho13, he13, hg13⟩
  clear ho13 he13 hg13
  go_wp2_with fail
  refine (sameAll_any s s2 w11.heap.size w12.heap.size vals vals2 (frames l).1 _ (H12.out.1.keep H13.out.2.2) H13.out.1 (H12.out.2.1.keep H13.out.2.2) H13.out.2.1 (by have := HFS.out.1; omega)).mono ?_
  rintro e w14 ⟨rfl, hg14⟩
  have hvl : vals.length ≤ 1048576 := by have := H12.out.2.1.1; have := HFS.out.1; omega
  have H14 : Hid (OwnV w14 w11.heap.size s vals ∧ Els w14 w11.heap.size vals (frames l).1 ∧ Rise vals ∧ w2.grownBy w14 none) :=
    ⟨(H12.out.1.keep H13.out.2.2).keep hg14, (H12.out.2.1.keep H13.out.2.2).keep hg14, H12.out.2.2.1, gb_none (gb_none (gb_none H11.out H12.out.2.2.2) H13.out.2.2) hg14⟩
  have HW : Hid (w2.heap.size ≤ w11.heap.size ∧ w11.heap.size ≤ w14.heap.size) := ⟨H11.out.size, by have := H12.out.2.2.2.size; have := H13.out.2.2.size; have := hg14.size; show w11.heap.size ≤ w14.heap.size; omega⟩
  clear hg14 H13 H12 H11
  obtain ⟨sa, sc, rfl⟩ := H14.out.1.shape
  generalize hB : w11.heap.size = B at *
  clear hB
  go_wp2
  go_loopw [25] (fun i wr => ∃ z : Nat, z ≤ vals.length ∧ i = .int .i64 z ∧ Hid (OwnV wr B (.slice sa vals.length sc) vals ∧ (∀ i, z ≤ i → i < vals.length → Own wr B (vals.getD i undef) ((frames l).1.getD i [])) ∧ w2.grownBy wr none ∧ B ≤ wr.heap.size)) (fun i _ => vals.length - (intOf i).toNat)
  case atStart => exact ⟨0, by omega, rfl, H14.out.1, fun i _ hi => H14.out.2.1.2 i hi, H14.out.2.2.2, HW.out.2⟩
  case round =>
    obtain ⟨z, hz, rfl, hr⟩ := hrel
    by_cases hlt : z < vals.length
    · obtain ⟨g, cap, he, hg0, hcap, hcm, hcell⟩ := hr.out.1.form (by intro h; rw [h] at hlt; simp at hlt)
      simp only [Value.slice.injEq] at he
      obtain ⟨rfl, -, rfl⟩ := he
      have hc := hcell z hlt
      have hE : Hid (Own wr B (vals.getD z undef) ((frames l).1.getD z [])) := hr.out.2.1 z (Nat.le_refl _) hlt
      have hS : Hid (∀ w', wr.grownBy w' (vals.getD z undef).ownBlock → OwnV w' B (.slice (some ⟨g, 0, none⟩) vals.length sc) vals ∧ (∀ i, z + 1 ≤ i → i < vals.length → Own w' B (vals.getD i undef) ((frames l).1.getD i [])) ∧ w2.grownBy w' none ∧ B ≤ w'.heap.size) := by
        intro w' hg
        refine ⟨hr.out.1.keptE hE.out hg, spoil_rest H14.out.2.2.1 hr.out.2.1 hlt hg, gb_new hr.out.2.2.1 hg (fun k hk => ?_), Nat.le_trans hr.out.2.2.2 hg.size⟩
        have := hE.out.lt k hk
        have := HW.out.1
        omega
      have hB2 : Hid (B ≤ wr.heap.size) := hr.out.2.2.2
      have hql : ((frames l).1.getD z []).length ≤ 175921850000000 := by have := getD_len HFS.out.2 z; omega
      clear hcell hr hg0 hcap hcm
      generalize vals.getD z undef = x at *
      generalize (frames l).1.getD z [] = q at *
      go_wp2_with fail
      refine (spoil_any x B q _ hE.out hB2.out hql).mono ?_
      rintro e w15 ⟨rfl, hg15⟩
      have H15 := hS.out w15 hg15
      have H16 : Hid (OwnV w15 B (.slice (some ⟨g, 0, none⟩) vals.length sc) vals ∧ (∀ i, z + 1 ≤ i → i < vals.length → Own w15 B (vals.getD i undef) ((frames l).1.getD i [])) ∧ w2.grownBy w15 none ∧ B ≤ w15.heap.size) := H15
      clear H15 hg15 hS hE hB2
      go_wp2
      go_roundw
      case rel => exact ⟨z + 1, by omega, by go_num, H16⟩
      case measure => simp [intOf]; omega
    · have HG : Hid (w2.grownBy wr none) := hr.out.2.2.1
      clear hr H14
      go_wp2_with fail
      refine (kept_any v1 v w.heap.size l _ (H2.out.2.1.keep HG.out) ((hv2.out.keep H2.out.2.2).keep HG.out)).mono ?_
      rintro e w16 ⟨rfl, hg16⟩
      have H16 : Hid (w.grownBy w16 none) := gb_none (gb_none H2.out.2.2 HG.out) hg16
      clear hg16 HG
      go_wp2_with fail
      refine (known_any _ (hT2.out.keep0 H16.out)).mono ?_
      rintro e w17 ⟨rfl, hg17⟩
      have H17 : Hid (Below w.heap.size w w17) := gb_below (gb_none H16.out hg17)
      clear hg17 H16
      go_wp2
      go_ret
      exact ⟨rfl, H17.out⟩

theorem frames_contract (H : Type) (enc : TypeId × Value → H) (W : World) (base : Nat) (args : Array Value) (ds gs : List (DataW H)) (before : List MemPlace)
    (hval : ∀ (j : Nat) t v, Tryd.f6.params[j]? = some t → args[j]? = some v → Value.okWide Tryd.prog W .any base t v)
    (hW : DataW.Whole enc Tryd.prog Tryd.f6.params.toList Rows.vintFramesSpec.vars false W args.toList ds gs before) (hL : laidMetH Tryd.prog Rows.vintFramesRow.laid W) (hk : Rows.uptoBulkAll (ds ++ gs) ≤ 1048576) :
    Calls Tryd.prog 6 args W fun e W' => ∃ v, e = .returned v ∧ Rows.vintFramesSpec.post enc Tryd.prog Tryd.f6 false true false false W args v W' := by
  have hW' := hW
  obtain ⟨p, q, hA0, hV, rfl, hfz, hnd⟩ := hW
  have hA : DataW.TrodAll enc Tryd.prog W 0 (fun _ => true) true Tryd.f6.params.toList args.toList ds p := hA0
  rw [Tryd.params6] at hA hval
  obtain ⟨v0, vs0, d0, ds0, p0, q0, hargs, rfl, rfl, h0, r0⟩ := trodAll_cons hA
  obtain ⟨v1, vs1, d1, ds1, p1, q1, rfl, rfl, rfl, h1, r1⟩ := trodAll_cons r0
  obtain ⟨v2, vs2, d2, ds2, p2, q2, rfl, rfl, rfl, h2, r2⟩ := trodAll_cons r1
  obtain ⟨rfl, rfl, rfl⟩ := trodAll_nil r2
  obtain rfl : args = #[v0, v1, v2] := by cases args; simp_all
  obtain ⟨rfl, rfl⟩ := trodVars_none hV
  obtain ⟨l0, rd0, b0, n0, nl0, nd0⟩ := open_bytes (hval 0 22 v0 rfl rfl) h0
  obtain ⟨l1, rd1, b1, n1, nl1, nd1⟩ := open_bytes (hval 1 22 v1 rfl rfl) h1
  obtain ⟨z2, rfl, rfl, rfl, wz2⟩ := open_int Tryd.underlying3 (hval 2 3 v2 rfl rfl) h2
  clear hA0
  simp only [List.append_nil, Rows.uptoBulkAll] at hk
  refine (frames_walk v0 v1 l0 l1 z2 W rd0 rd1 (tab_of hL) (by omega) (by omega)).mono fun e W' ⟨he, bel⟩ => ?_
  subst he
  exact ⟨_, rfl, _, _, _, [], _, [], hW', trodAll_mk1 (shut_bool Tryd.underlying4 _), (trodAll_cons_mk (back_bytes h0 bel) (trodAll_cons_mk (back_bytes h1 bel) (trodAll_cons_mk (shut_int Tryd.underlying3 wz2) trodAll_mk0))), rfl, bel.frame _, fun h => by cases h⟩

theorem frames_met (os : Os) : laidMet Tryd.prog Rows.vintFramesRow.laid ((laidWorld os).forCall (fun _ _ => 0) ⟨#[], #[.slice none 0 0, .slice none 0 0, .int .i64 0], []⟩).memory :=
  laidMet_of_run' 8 (by kernel_rfl) (by kernel_rfl)
theorem frames_reads (os : Os) {H : Type} (enc : TypeId × Value → H) : ∃ places, DataW.whole enc Tryd.prog ((laidWorld os).forCall (fun _ _ => 0) ⟨#[], #[.slice none 0 0, .slice none 0 0, .int .i64 0], []⟩).memory Tryd.f6.params.toList Rows.vintFramesSpec.vars false #[Value.slice none 0 0, Value.slice none 0 0, Value.int .i64 0].toList 8 = some ([.nil, .nil, .lit (.int .i64 0)], [], places) :=
  ⟨[], by kernel_rfl⟩

set_option maxRecDepth 100000 in
theorem frames_lifted (os : Os) (started : os.Started) (H : Type) (enc : TypeId × Value → H) (F : Stop.Interp) :
    ReturnsInHanded {} Tryd.checked os 6 .any ((Rows.OpenSpec.upto Rows.vintFramesSpec).preRow enc Tryd.prog Tryd.f6 Rows.vintFramesUptoRow.domain false Rows.vintFramesUptoRow.laid) (((Rows.OpenSpec.upto Rows.vintFramesSpec).at F).post enc Tryd.prog Tryd.f6 false true false false) := by
  obtain ⟨places, hx⟩ := frames_reads os enc
  refine returnsInHanded_of_row (C := Tryd.checked) (s := (Rows.OpenSpec.upto Rows.vintFramesSpec)) own started (by kernel_rfl) Tryd.func6
    (witness_row_at (enc := enc) (C := Tryd.checked) false (laidWorld os) #[.slice none 0 0, .slice none 0 0, .int .i64 0] rfl (by kernel_rfl) (by kernel_rfl) (by kernel_rfl)
      (OpenSpec.preRow_of_cond 8 hx (by kernel_rfl) (fun k hk => by cases hk; kernel_rfl) (by kernel_rfl) (frames_met os))) ?_
  intro W base args ds gs before hval hW _ hcond _ hL _ _
  exact frames_contract H enc W base args ds gs before hval hW hL (of_decide_eq_true (hcond _ rfl))

theorem frames_said : Rows.VintFramesUptoSaid :=
  OpenClaim.holds_of_cond 6 Tryd.f6 rfl rfl rfl rfl rfl rfl rfl ⟨rfl, rfl, rfl, rfl, rfl⟩ rfl rfl rfl rfl rfl (by kernel_rfl) Tryd.func6 (by kernel_rfl)
    (of_decide_eq_true (by kernel_rfl)) (by unfold Func.isWrapper; first | (rw [if_pos (by decide +kernel)]; kernel_rfl) | (rw [if_neg (by decide +kernel)]; exact ⟨rfl, rfl⟩))
    (fun os started H enc _ F => by rw [OpenClaim.pre_eq_preRow]; exact frames_lifted os started H enc F)

theorem frames_inuint8 : Tryd.prog.wantsStandIn 22 = false := by kernel_rfl
theorem frames_inint : Tryd.prog.wantsStandIn 3 = false := by kernel_rfl
theorem frames_plain (f : FuncId) (fn : Func) (hf : Tryd.pinned.checked.prog.funcNamed "tocsin/tocsinlaw01.VintFrames" = some f) (hfn : Tryd.pinned.checked.prog.funcs[f]? = some fn) :
    false = Tryd.pinned.checked.prog.looks [] ∧ ∀ (j : Nat) t, fn.params[j]? = some t → Tryd.pinned.checked.prog.wantsStandIn t = false := by
  obtain rfl : f = 6 := Option.some.inj ((show Tryd.prog.funcNamed "tocsin/tocsinlaw01.VintFrames" = some 6 by kernel_rfl).symm.trans hf) |>.symm
  obtain rfl : fn = Tryd.f6 := (Option.some.inj (Tryd.func6.symm.trans hfn)).symm
  refine ⟨by kernel_rfl, fun j t ht => ?_⟩
  rw [Tryd.params6] at ht
  have hm := Array.mem_of_getElem? ht
  simp only [List.mem_toArray, List.mem_cons, List.not_mem_nil, or_false] at hm
  rcases hm with rfl | rfl | rfl
  · exact frames_inuint8
  · exact frames_inuint8
  · exact frames_inint

/-- THE STATEMENT -/
theorem vintFrames_holds : Rows.VintFramesUptoCardSaid :=
  Claim7.holds_tied_plain_at .later [] _ _ _ _ frames_said (fun _ h => by cases h) (by kernel_rfl) (fun _ h => by cases h) vintFramesUpto_row_tie rfl ⟨rfl, rfl⟩ (by kernel_rfl) rfl frames_plain (by kernel_rfl)
end Go.Proofs.YtimjlclkdfogfaaDoor
