/-
  ChunkCodes: samples are bytes, and bytes are samples, or none; those of a span are told: the walk.
-/
import Derived.Test.YtkiefmhampfhoaaDoorCkCe
import Derived.Test.YtkiefmhampfhoaaDoorGL
import Derived.Deep.Cut
namespace Go.Proofs.YtkiefmhampfhoaaDoor
open Go.RowKit

/-- what Encode answers, in one form -/
def EncV (l : List SmpT) (X : List UInt8) (q i : Int) : Prop := (okL startP l ∧ X = ckB l ∧ q = 0 ∧ i = 0) ∨ (∃ z, z < l.length ∧ okL startP (l.take z) ∧ wrongN (stA startP (l.take z)) (l.getD z smZ).1 ≠ 0 ∧ X = [] ∧ q = wrongN (stA startP (l.take z)) (l.getD z smZ).1 ∧ i = (z : Int))
theorem okL_at {l : List SmpT} {n z : Nat} (h : okL startP (l.take n)) (hz : z < n) (hl : z < l.length) : wrongN (stA startP (l.take z)) (l.getD z smZ).1 = 0 := by
  have h1 : okL startP ((l.take n).take (z + 1)) := okL_take h (z + 1)
  rw [List.take_take, Nat.min_eq_left (by omega), take_snocS hl, okL_snoc] at h1
  exact h1.2.1
theorem EncV.same {l : List SmpT} {X X' : List UInt8} {q q' i i' : Int} (h : EncV l X q i) (h' : EncV l X' q' i') : X = X' ∧ q = q' ∧ i = i' := by
  have hno : okL startP l → ∀ z, z < l.length → wrongN (stA startP (l.take z)) (l.getD z smZ).1 = 0 := fun hl z hz => okL_at (n := l.length) (by rw [List.take_of_length_le (Nat.le_refl _)]; exact hl) hz hz
  rcases h with ⟨h1, rfl, rfl, rfl⟩ | ⟨z, h1, h2, h3, rfl, rfl, rfl⟩ <;> rcases h' with ⟨g1, rfl, rfl, rfl⟩ | ⟨y, g1, g2, g3, rfl, rfl, rfl⟩
  · exact ⟨rfl, rfl, rfl⟩
  · exact absurd (hno h1 y g1) g3
  · exact absurd (hno g1 z h1) h3
  · have : z = y := by
      rcases Nat.lt_trichotomy z y with e | e | e
      · exact absurd (okL_at g2 e h1) h3
      · exact e
      · exact absurd (okL_at h2 e g1) g3
    subst this
    exact ⟨rfl, rfl, rfl⟩
theorem EncA.uni {l : List SmpT} {w w' : World} {e : Ending} (h : EncA l w w' e) : ∃ x q i X, e = .returned (.tuple #[x, .int .i64 q, .int .i64 i]) ∧ EncV l X q i ∧ Rd w' x X := by
  rcases h with ⟨h1, v', rfl, h2⟩ | ⟨z, h1, h2, h3, rfl⟩
  · exact ⟨_, _, _, _, rfl, .inl ⟨h1, rfl, rfl, rfl⟩, h2.rd⟩
  · exact ⟨_, _, _, [], rfl, .inr ⟨z, h1, h2, h3, rfl, rfl, rfl⟩, Rd.nil _⟩
/-- what Decode answers, in one form -/
def DecV (b : List UInt8) (k : List SmpT) (q : Int) : Prop := (okL startP k ∧ b = ckB k ∧ q = 0) ∨ (k = [] ∧ q = 3 ∧ ∀ m, okL startP m → b ≠ ckB m)
theorem DecV.same {b : List UInt8} {k k' : List SmpT} {q q' : Int} (h : DecV b k q) (h' : DecV b k' q') : k = k' ∧ q = q' := by
  rcases h with ⟨h1, h2, rfl⟩ | ⟨rfl, rfl, h3⟩ <;> rcases h' with ⟨g1, g2, rfl⟩ | ⟨rfl, rfl, g3⟩
  · exact ⟨ckB_inj h1 g1 (h2.symm.trans g2), rfl⟩
  · exact absurd h2 (g3 k h1)
  · exact absurd g2 (h3 k' g1)
  · exact ⟨rfl, rfl⟩
theorem DecV.most {b : List UInt8} {k : List SmpT} {q : Int} (h : DecV b k q) : k.length ≤ 120 := by
  rcases h with ⟨h1, -, -⟩ | ⟨rfl, -, -⟩
  · exact okL_most h1
  · simp
theorem dec_v (w : World) (v : Value) (b : List UInt8) (hv : Rd w v b) (hb : b.length < 281474976710656) (hT : Tk w) :
    Calls Tryd.prog 23 #[v] w fun e w' => ∃ a n c q k, e = .returned (.tuple #[.slice a n c, .int .i64 q]) ∧ n = k.length ∧ DecV b k q ∧ w'.ownsRow w.heap.size 27 2 (.slice a n c) k.length (smC k) ∧ w.grownBy w' none := by
  refine (decode_own w v b hv hb hT).mono ?_
  rintro e w' ⟨⟨l, v', rfl, h1, h2, h3⟩ | ⟨rfl, h⟩, hg⟩
  · obtain ⟨a, c, rfl⟩ : ∃ a c, v' = .slice a l.length c := by
      rcases h3.2 with ⟨e, e2⟩ | ⟨b, cap, cur, e, -⟩
      · exact ⟨none, 0, by rw [e, e2]⟩
      · exact ⟨_, _, e⟩
    exact ⟨a, _, c, 0, l, rfl, rfl, .inl ⟨h1, h2, rfl⟩, h3, hg⟩
  · exact ⟨none, 0, 0, 3, [], rfl, rfl, .inr ⟨rfl, rfl, h⟩, World.ownsRow_nil _ _ _ _, hg⟩
theorem DPost.uni {w w' : World} {b : List UInt8} {e : Ending} (h : DPost w b e w') : ∃ v' q k, e = .returned (.tuple #[v', .int .i64 q]) ∧ DecV b k q ∧ w'.ownsRow w.heap.size 27 2 v' k.length (smC k) ∧ w.grownBy w' none := by
  obtain ⟨⟨l, v', rfl, h1, h2, h3⟩ | ⟨rfl, h⟩, hg⟩ := h
  · exact ⟨_, 0, l, rfl, .inl ⟨h1, h2, rfl⟩, h3, hg⟩
  · exact ⟨_, 3, [], rfl, .inr ⟨rfl, rfl, h⟩, World.ownsRow_nil _ _ _ _, hg⟩
theorem rng_v (w : World) (v : Value) (b : List UInt8) (frm upt : Int) (hv : Rd w v b) (hb : b.length < 281474976710656) (hT : Tk w) :
    Calls Tryd.prog 26 #[v, .int .i64 frm, .int .i64 upt] w fun e w' => ∃ v' q k, e = .returned (.tuple #[v', .int .i64 q]) ∧ DecV b k q ∧ RdP w' v' (wthn frm upt k) ∧ w.grownBy w' none := by
  refine (ranged_any w v b frm upt hv hb hT).mono ?_
  rintro e w' ⟨⟨l, v', rfl, h1, h2, h3⟩ | ⟨rfl, h⟩, hg⟩
  · exact ⟨_, 0, l, rfl, .inl ⟨h1, h2, rfl⟩, h3, hg⟩
  · exact ⟨_, 3, [], rfl, .inr ⟨rfl, rfl, h⟩, RdP.nil _, hg⟩
theorem Rd.ch2 {w w' : World} {S : Nat → Prop} {g cap : Nat} {l : List UInt8} (h : Rd w (.slice (some ⟨g, 0, none⟩) l.length cap) l) (hc : Ch w w' S) (hs : ¬ S g) (hg : g < w.heap.size) : Rd w' (.slice (some ⟨g, 0, none⟩) l.length cap) l := by
  obtain ⟨a, c, e, h1, h2, h3, h4⟩ := h
  refine ⟨a, c, e, h1, h2, fun j hj => ?_, h4⟩
  obtain ⟨b, o, q, q2⟩ := h3 j hj
  simp only [Value.slice.injEq] at e
  have e1 := e.1
  rw [q] at e1
  simp only [Option.some.injEq, Addr.mk.injEq, and_true] at e1
  obtain ⟨rfl, rfl⟩ := e1
  exact ⟨g, 0, q, (World.cell?_of_block (hc.block hg hs)).trans q2⟩

set_option maxRecDepth 8000 in
set_option maxHeartbeats 12800000 in
theorem codes_of (hDec : ∀ (w : World) (v : Value) (b : List UInt8), Rd w v b → Calls Tryd.prog 24 #[v] w fun e w' => DPost w b e w') (v u : Value) (l : List SmpT) (b : List UInt8) (frm upt : Int) (w : World) (hv : RdP w v l) (hl : SmIn l) (hl2 : l.length ≤ 8796093022208) (hu : Rd w u b) (hb : b.length ≤ 140737488351232) (hT : Tk w) :
    Calls Tryd.prog 4 #[v, u, .int .i64 frm, .int .i64 upt] w fun e w' => e = .returned (.bool true) ∧ Below w.heap.size w w' := by
  have HV := hidJ (And.intro hv (And.intro hl (And.intro hu (And.intro hb hT))))
  have HDec := hidJ hDec
  obtain ⟨a, c, rfl, -, -, -⟩ := hv
  obtain ⟨a1, c1, W1, r1, row1, hg1⟩ := run_copyP w a l.length c l HV.out.1 hl2
  have H1 : Hid (RdP W1 (.slice a1 l.length c1) l ∧ w.grownBy W1 none) := ⟨RdP.of_row row1, hg1⟩
  clear row1 hg1 hl hl2 hu hb hT hDec
  go_enter Tryd.func4, Tryd.ntmps4
  go_wp2_with (at_builtin; refine wp_appRun rfl _ _ 22 rfl _ _ _ rfl rfl r1 ?_)
  go_wp2_with fail
  refine (ckEncode_any W1 _ l H1.out.1 HV.out.2.1 (HV.out.2.2.2.2.keep H1.out.2)).mono ?_
  rintro e w2 ⟨hE, hg2⟩
  obtain ⟨x, q, i, X, rfl, hE1, hE2⟩ := hE.uni
  have H2 : Hid (RdP w2 (.slice a1 l.length c1) l ∧ w.grownBy w2 none ∧ EncV l X q i ∧ Rd w2 x X) := ⟨H1.out.1.keep hg2, gb_none H1.out.2 hg2, hE1, hE2⟩
  clear hE hg2 hE1 hE2 H1 r1
  go_wp2_with fail
  refine (dEncode_any w2 _ l (HV.out.1.keep H2.out.2.1) HV.out.2.1).mono ?_
  rintro e w3 ⟨hE, hg3⟩
  obtain ⟨y, q', i', X', rfl, hE1, hE2⟩ := hE.uni
  obtain ⟨rfl, rfl, rfl⟩ := H2.out.2.2.1.same hE1
  have s1 := run_strU (H2.out.2.2.2.keep hg3)
  have s2 := run_strU hE2
  have H3 : Hid (RdP w3 (.slice a1 l.length c1) l ∧ w.grownBy w3 none) := ⟨H2.out.1.keep hg3, gb_none H2.out.2.1 hg3⟩
  clear hE hg3 hE1 hE2 H2
  go_wp2_with fail
  refine (refSame_any w3 _ _ l l H3.out.1 (HV.out.1.keep H3.out.2)).mono ?_
  rintro e w4 ⟨rfl, hg4⟩
  have H4 := hidJ (gb_none H3.out.2 hg4)
  clear hg4 H3 s1 s2
  rw [decide_eq_true rfl]
  go_wp2_with fail
  refine (lent8_any _ b w4 (HV.out.2.2.1.keep H4.out) (by have := HV.out.2.2.2.1; omega)).mono ?_
  rintro e w5 ⟨vc, rfl, hL, hg5⟩
  obtain ⟨gc, cc, rfl, hgc, hrc⟩ := id hL
  have hgl : gc < w5.heap.size := by
    obtain ⟨a', c', he, -, -, h3, -⟩ := hrc
    obtain ⟨b', o', e1, h4⟩ := h3 0 (by simp)
    simp only [Value.slice.injEq] at he
    have e2 := he.1
    rw [e1] at e2
    simp only [Option.some.injEq, Addr.mk.injEq, and_true] at e2
    obtain ⟨rfl, rfl⟩ := e2
    exact block_lt h4
  have H5 : Hid (LentAs w5 w4.heap.size (.slice (some ⟨gc, 0, none⟩) b.length cc) b ∧ w.grownBy w5 none ∧ gc < w5.heap.size ∧ Tk w5 ∧ b.length < 281474976710656) := ⟨hL, gb_none H4.out hg5, hgl, HV.out.2.2.2.2.keep (gb_none H4.out hg5), by have := HV.out.2.2.2.1; omega⟩
  clear hL hgc hrc hgl hg5 H4
  go_wp2_with fail
  refine (dec_v w5 _ b H5.out.1.rd H5.out.2.2.2.2 H5.out.2.2.2.1).mono ?_
  rintro e w6 ⟨aM, nM, cM, qd, k, rfl, hnM, hD, hrM, hg6⟩
  have H6 := hidJ (And.intro hnM (And.intro hD (And.intro hrM hg6)))
  have hn120 : nM ≤ 120 := by rw [hnM]; exact hD.most
  clear hnM hD hrM hg6
  go_wp2_with fail
  refine (dec_v w6 _ b (H5.out.1.rd.keep H6.out.2.2.2) H5.out.2.2.2.2 (H5.out.2.2.2.1.keep H6.out.2.2.2)).mono ?_
  rintro e w7 ⟨aG, nG, cG, qd', k', rfl, hnG, hD, hrG, hg7⟩
  obtain ⟨rfl, rfl⟩ := H6.out.2.1.same hD
  have H7 := hidJ (And.intro hrG hg7)
  clear hnG hD hrG hg7
  go_wp2_with fail
  refine (HDec.out w7 _ b ((HV.out.2.2.1.keep H5.out.2.1).keep (gb_none H6.out.2.2.2 H7.out.2))).mono ?_
  intro e w8 hP
  obtain ⟨vN, qd', k', rfl, hD, hrN, hg8⟩ := hP.uni
  obtain ⟨rfl, rfl⟩ := H6.out.2.1.same hD
  have H8 : Hid (w8.ownsRow w5.heap.size 27 2 (.slice aM nM cM) k.length (smC k) ∧ w8.ownsRow w6.heap.size 27 2 (.slice aG nG cG) k.length (smC k) ∧ w8.ownsRow w7.heap.size 27 2 vN k.length (smC k) ∧ w5.grownBy w8 none ∧ (∀ q, (Value.slice aM nM cM).ownBlock = some q → w5.heap.size ≤ q ∧ q < w6.heap.size) ∧ w6.heap.size ≤ w7.heap.size) := by
    have kk : ∀ {v : Value} {base n : Nat} {xs : List Value} {W W' : World}, W.ownsRow base 27 2 v n xs → W.grownBy W' none → W'.ownsRow base 27 2 v n xs := fun h hg => row_ch h (Ch.of_gb (S := fun _ => False) hg (fun k hk => by cases hk)) (fun _ _ e => e)
    exact ⟨kk H6.out.2.2.1 (gb_none H7.out.2 hg8), kk H7.out.1 hg8, hrN, gb_none H6.out.2.2.2 (gb_none H7.out.2 hg8), World.ownsRow.lt H6.out.2.2.1, H7.out.2.size⟩
  have HD := hidJ (And.intro H6.out.1 H6.out.2.1)
  clear hP hD hrN hg8 H6 H7 HDec
  go_wp2_with fail
  refine (refSame_any w8 _ _ k k (RdP.of_row H8.out.1) (RdP.of_row H8.out.2.2.1)).mono ?_
  rintro e w9 ⟨rfl, hg9⟩
  have H9 := hidJ hg9
  clear hg9
  rw [decide_eq_true rfl]
  go_wp2_with fail
  refine (kept8_any _ _ _ b w9 (H5.out.1.keep (gb_none H8.out.2.2.2.1 H9.out)) (HV.out.2.2.1.keep (gb_none H5.out.2.1 (gb_none H8.out.2.2.2.1 H9.out)))).mono ?_
  rintro e wa ⟨rfl, hga⟩
  have HA : Hid (w8.grownBy wa none) := gb_none H9.out hga
  clear hga H9
  have hsf := store_float
  go_wp2_with fail
  go_loopw [96] (fun i wr => ∃ z : Nat, z ≤ nM ∧ i = .int .i64 z ∧ Hid (∃ k' : List SmpT, k'.length = nM ∧ wr.ownsRow w5.heap.size 27 2 (.slice aM nM cM) k'.length (smC k') ∧ wa.grownBy wr (Value.ownBlock (.slice aM nM cM)))) (fun i _ => nM - (intOf i).toNat)
  case atStart => exact ⟨0, by omega, rfl, k, HD.out.1.symm, row_ch H8.out.1 (Ch.of_gb (S := fun _ => False) HA.out (fun k hk => by cases hk)) (fun _ _ e => e), gb_refl _ _⟩
  case round =>
    obtain ⟨z, hz, rfl, hr⟩ := hrel
    obtain ⟨m, hm, ho, hg⟩ := hr.out
    by_cases hlt : z < nM
    · have hzi : (z : Int) < (nM : Int) := by omega
      obtain ⟨g, cap, cur, he, -, -, hcap, hcm, -⟩ : ∃ g cap cur, Value.slice aM nM cM = .slice (some ⟨g, 0, none⟩) m.length cap ∧ w5.heap.size ≤ g ∧ wr.heap[g]? = some (.cells cur 27 (0, 0)) ∧ m.length ≤ cap ∧ cap ≤ maxLen ∧ True := by
        rcases ho.2 with ⟨e, e2⟩ | ⟨g, cap, cur, e, h1, h2, h3, h4, -⟩
        · omega
        · exact ⟨g, cap, cur, e, h1, h2, h3, h4, trivial⟩
      simp only [Value.slice.injEq] at he
      obtain ⟨rfl, -, rfl⟩ := he
      rw [← hm] at ho
      have hcells := World.ownsRow.cells ho rfl
      have hat := smC_at m z (by omega)
      have c0 := hcells _ _ hat.1
      have c1 := hcells _ _ hat.2
      rw [Go.WideShapes.add_plain, Nat.zero_add] at c0 c1
      have f0 := World.ownsRow.frozenAt ho (z * 2)
      have f1 := World.ownsRow.frozenAt ho (z * 2 + 1)
      have hst : Hid (∃ k' : List SmpT, k'.length = nM ∧ ((wr.setCell ⟨g, z * 2, none⟩ (.int .i64 (-1))).setCell ⟨g, z * 2 + 1, none⟩ (.float .f64 0)).ownsRow w5.heap.size 27 2 (.slice (some ⟨g, 0, none⟩) nM cM) k'.length (smC k') ∧ wa.grownBy ((wr.setCell ⟨g, z * 2, none⟩ (.int .i64 (-1))).setCell ⟨g, z * 2 + 1, none⟩ (.float .f64 0)) (Value.ownBlock (.slice (some ⟨g, 0, none⟩) nM cM))) := by
        obtain ⟨h1, h2⟩ := rowP_set ho z (-1, 0)
        refine ⟨m.set z (-1, 0), by rw [List.length_set]; exact hm, ?_, gb_trans hg h2 (fun k' hk' _ => hk'.symm)⟩
        rw [List.length_set, ← hm]
        exact h1
      have hcm2 : cM ≤ 9223372036854775807 := hcm
      clear hcells hat ho hg hr hcm hm
      generalize (m.getD z smZ).1 = t0 at *
      generalize (m.getD z smZ).2 = t1 at *
      go_wp2
      go_roundw
      case rel => exact ⟨z + 1, by omega, by go_num, hst⟩
      case measure => simp [intOf]; omega
    · have hzi : ¬ (z : Int) < (nM : Int) := by omega
      have HB : Hid (w.grownBy wr none ∧ wr.ownsRow w6.heap.size 27 2 (.slice aG nG cG) k.length (smC k) ∧ wr.ownsRow w7.heap.size 27 2 vN k.length (smC k) ∧ Rd wr (.slice (some ⟨gc, 0, none⟩) b.length cc) b) := by
        obtain ⟨p1, p2, p3, p4, p5, p6⟩ := H8.out
        have hc : Ch wa wr (fun q => (Value.slice aM nM cM).ownBlock = some q) := Ch.of_gb hg (fun q hq _ => hq)
        have hw5 := H5.out.2.1
        have hc8 := Ch.of_gb (S := fun _ => False) HA.out (fun k hk => by cases hk)
        refine ⟨gb_ch (gb_none (gb_none hw5 p4) HA.out) hc (fun q hq => ?_), row_ch (row_ch p2 hc8 (fun _ _ e => e)) hc (fun q hq e => ?_), row_ch (row_ch p3 hc8 (fun _ _ e => e)) hc (fun q hq e => ?_), Rd.ch2 (H5.out.1.rd.keep (gb_none p4 HA.out)) hc (fun e => ?_) ?_⟩
        · have := (p5 q hq).1
          have := hw5.size
          omega
        · have := (p5 q e).2
          have := (World.ownsRow.lt p2 q hq).1
          omega
        · have := (p5 q e).2
          have := (World.ownsRow.lt p3 q hq).1
          omega
        · have := (p5 gc e).1
          have := H5.out.2.2.1
          omega
        · have := (gb_none p4 HA.out).size
          have := H5.out.2.2.1
          omega
      have HB2 := hidJ (And.intro H5.out.2.2.2.2 HV.out.2.2.2.2)
      clear hr ho hg H8 HA H5 HV
      generalize wr = wb at *
      go_wp2_with fail
      refine (rng_v wb _ b frm upt HB.out.2.2.2 HB2.out.1 (HB2.out.2.keep HB.out.1)).mono ?_
      rintro e wc ⟨vR, qd', k', rfl, hD, hrR, hgc⟩
      obtain ⟨rfl, rfl⟩ := HD.out.2.same hD
      have HC : Hid (w.grownBy wc none ∧ RdP wc (.slice aG nG cG) k ∧ RdP wc vN k ∧ RdP wc vR (wthn frm upt k) ∧ k.length ≤ 1000) := ⟨gb_none HB.out.1 hgc, (RdP.of_row HB.out.2.1).keep hgc, (RdP.of_row HB.out.2.2.1).keep hgc, hrR, by have := HD.out.2.most; omega⟩
      clear hD hrR hgc HB HB2 HD
      go_wp2_with fail
      refine (refSame_any wc _ _ k k HC.out.2.1 HC.out.2.2.1).mono ?_
      rintro e wd ⟨rfl, hgd⟩
      have HD : Hid (w.grownBy wd none ∧ RdP wd vN k ∧ RdP wd vR (wthn frm upt k)) := ⟨gb_none HC.out.1 hgd, HC.out.2.2.1.keep hgd, HC.out.2.2.2.1.keep hgd⟩
      clear hgd
      rw [decide_eq_true rfl]
      go_wp2_with fail
      refine (dWithin_any wd _ k frm upt HD.out.2.1 HC.out.2.2.2.2).mono ?_
      rintro e we ⟨vW, rfl, hrW, hge⟩
      have HE : Hid (w.grownBy we none ∧ RdP we vW (wthn frm upt k) ∧ RdP we vR (wthn frm upt k)) := ⟨gb_none HD.out.1 hge, hrW, HD.out.2.2.keep hge⟩
      clear hrW hge HD HC
      go_wp2_with fail
      refine (refSame_any we _ _ _ _ HE.out.2.2 HE.out.2.1).mono ?_
      rintro e wf ⟨rfl, hgf⟩
      have HF := hidJ (gb_none HE.out.1 hgf)
      clear hgf HE
      rw [decide_eq_true rfl]
      go_wp2_with fail
      refine (awake_any _).mono ?_
      rintro e wg ⟨rfl, hgg⟩
      have HG : Hid (Below w.heap.size w wg) := gb_below (gb_none HF.out hgg)
      clear hgg
      go_wp2
      go_ret
      exact ⟨rfl, HG.out⟩
end Go.Proofs.YtkiefmhampfhoaaDoor
