/-
  ChunkPieces: many samples are several chunks, and several chunks are samples: the walk.
-/
import Derived.Test.YtkiefmhampfhoaaDoorCkJb
import Derived.Test.YtkiefmhampfhoaaDoorCkJc
import Derived.Test.YtkiefmhampfhoaaDoorCkJd
import Derived.Test.YtkiefmhampfhoaaDoorGH
import Derived.Deep.Cut
namespace Go.Proofs.YtkiefmhampfhoaaDoor
open Go.RowKit

/-- what Split answers, in one form -/
def SpU (l : List SmpT) (K : Nat) (q i : Int) : Prop := (RisOk l ∧ l.length ≤ 120 * K ∧ 120 * K < l.length + 120 ∧ q = 0 ∧ i = 0) ∨ (∃ z, z < l.length ∧ risC l z ≠ 0 ∧ (∀ j, j < z → risC l j = 0) ∧ K = 0 ∧ q = risC l z ∧ i = (z : Int))
theorem SpU.same {l : List SmpT} {K K' : Nat} {q q' i i' : Int} (h : SpU l K q i) (h' : SpU l K' q' i') : K = K' ∧ q = q' ∧ i = i' := by
  rcases h with ⟨h1, h2, h3, rfl, rfl⟩ | ⟨z, h1, h2, h3, rfl, rfl, rfl⟩ <;> rcases h' with ⟨g1, g2, g3, rfl, rfl⟩ | ⟨y, g1, g2, g3, rfl, rfl, rfl⟩
  · exact ⟨by omega, rfl, rfl⟩
  · exact absurd (h1 y g1) g2
  · exact absurd (g1 z h1) h2
  · have : z = y := by
      rcases Nat.lt_trichotomy z y with e | e | e
      · exact absurd (g3 z e) h2
      · exact e
      · exact absurd (h3 y e) g2
    subst this
    exact ⟨rfl, rfl, rfl⟩
theorem SpA.uni {l : List SmpT} {w w' : World} {e : Ending} (h : SpA l w w' e) : ∃ a K c q i, e = .returned (.tuple #[.slice a K c, .int .i64 q, .int .i64 i]) ∧ SpU l K q i ∧ RdBs w' (.slice a K c) K (fun j => ckB (pieceL l j)) := by
  rcases h with ⟨h1, v', K, h2, h3, rfl, h4⟩ | ⟨z, h1, h2, h3, rfl⟩
  · have h5 := h4.rd
    obtain ⟨a, c, rfl, -⟩ := id h5
    exact ⟨a, K, c, 0, 0, rfl, .inl ⟨h1, h2, h3, rfl, rfl⟩, h5⟩
  · exact ⟨none, 0, 0, _, _, rfl, .inr ⟨z, h1, h2, h3, rfl, rfl, rfl⟩, none, 0, rfl, Nat.le_refl _, by simp [maxLen], fun j hj => absurd hj (by omega)⟩
theorem RdBs.begin {w : World} {a : Option Addr} {n c : Nat} {f : Nat → List UInt8} (h : RdBs w (.slice a n c) n f) (k : Nat) (hk : k ≤ n) : RdBs w (.slice a k c) k f := by
  obtain ⟨a', c', e, h1, h2, h3⟩ := h
  simp only [Value.slice.injEq, true_and] at e
  obtain ⟨rfl, rfl⟩ := e
  exact ⟨a, c, rfl, by omega, h2, fun j hj => h3 j (by omega)⟩

set_option maxRecDepth 8000 in
set_option maxHeartbeats 12800000 in
theorem pieces_of (hDec : ∀ (w : World) (v : Value) (b : List UInt8), Rd w v b → Calls Tryd.prog 24 #[v] w fun e w' => DPost w b e w') (v u : Value) (l : List SmpT) (n : Nat) (f : Nat → List UInt8) (w : World) (hv : RdP w v l) (hl : SmIn l) (hu : RdBs w u n f) (hf : ∀ j, j < n → (f j).length < 281474976710656) (hT : Tk w) :
    Calls Tryd.prog 5 #[v, u] w fun e w' => e = .returned (.bool true) ∧ Below w.heap.size w w' := by
  have HV := hidJ (And.intro hv (And.intro hl (And.intro hu (And.intro hf hT))))
  have HDec := hidJ hDec
  obtain ⟨a, c, rfl, hlc, hcm, -⟩ := hv
  obtain ⟨a1, c1, rfl, hnc, hcm1, -⟩ := hu
  have HLC : Hid ((l.length ≤ c ∧ c ≤ 9223372036854775807) ∧ n ≤ c1 ∧ c1 ≤ 9223372036854775807) := ⟨⟨hlc, hcm⟩, hnc, hcm1⟩
  clear hlc hcm hnc hcm1 hl hf hT hDec
  go_enter Tryd.func5, Tryd.ntmps5
  go_upto_if 20 with fail
  go_cut [0] from 18 (fun s wc => s = .slice a (l.take 2000).length c ∧ wc = w)
  case first =>
    by_cases hbig : 2000 < l.length
    · have hbi : (2000 : Int) < (l.length : Int) := by omega
      have hbc : (2000 : Int) ≤ (c : Int) := by have := HLC.out; omega
      have hq : Hid ((l.take 2000).length = 2000) := by show (l.take 2000).length = 2000; rw [List.length_take]; omega
      generalize (l.take 2000).length = q at *
      go_wp2_with fail
      go_meet
      case rel => exact ⟨by rw [hq.out], rfl⟩
    · have hbi : ¬ (2000 : Int) < (l.length : Int) := by omega
      have hq : Hid ((l.take 2000).length = l.length) := by show (l.take 2000).length = l.length; rw [List.length_take]; omega
      generalize (l.take 2000).length = q at *
      go_wp2_with fail
      go_meet
      case rel => exact ⟨by rw [hq.out], rfl⟩
  case rest =>
    obtain ⟨rfl, hwc⟩ := hcut
    have hwc := hwc.symm
    subst hwc
    have HL : Hid (RdP w (.slice a (l.take 2000).length c) (l.take 2000) ∧ SmIn (l.take 2000) ∧ (l.take 2000).length ≤ 2000 ∧ Tk w) := by
      refine ⟨?_, fun y hy => HV.out.2.1 y (List.mem_of_mem_take hy), by rw [List.length_take]; omega, HV.out.2.2.2.2⟩
      have h := HV.out.1.begin (l.take 2000).length (by rw [List.length_take]; omega)
      have e : l.take (l.take 2000).length = l.take 2000 := by
        rw [List.length_take]
        by_cases hbig : 2000 ≤ l.length
        · rw [Nat.min_eq_left hbig]
        · rw [Nat.min_eq_right (by omega), List.take_of_length_le (Nat.le_refl _), List.take_of_length_le (by omega)]
      rw [e] at h
      exact h
    have HU := hidJ (And.intro HV.out.2.2.1 (And.intro HV.out.2.2.2.1 (And.intro HLC.out.2 HV.out.2.2.2.2)))
    clear HV HLC
    generalize l.take 2000 = L at *
    clear l
    go_wp2_with fail
    refine (ckSplit_any w _ L HL.out.1 HL.out.2.1 HL.out.2.2.2 HL.out.2.2.1).mono ?_
    rintro e w1 ⟨hS, hg1⟩
    obtain ⟨aS, K, cS, q, i, rfl, hS1, hS2⟩ := hS.uni
    have H1 := hidJ (And.intro hg1 (And.intro hS1 hS2))
    clear hS hg1 hS1 hS2
    go_wp2_with fail
    refine (dSplit_any w1 _ L (HL.out.1.keep H1.out.1) HL.out.2.1 HL.out.2.2.1).mono ?_
    rintro e w2 ⟨hS, hg2⟩
    obtain ⟨aR, K', cR, q', i', rfl, hS1, hS2⟩ := hS.uni
    obtain ⟨rfl, rfl, rfl⟩ := H1.out.2.1.same hS1
    have H2 : Hid (w.grownBy w2 none ∧ RdBs w2 (.slice aS K cS) K (fun j => ckB (pieceL L j)) ∧ RdBs w2 (.slice aR K cR) K (fun j => ckB (pieceL L j)) ∧ K ≤ 17) := by
      refine ⟨gb_none H1.out.1 hg2, H1.out.2.2.keep hg2, hS2, ?_⟩
      rcases hS1 with ⟨-, -, h, -⟩ | ⟨-, -, -, -, h, -⟩
      · have := HL.out.2.2.1; omega
      · omega
    have hK : K ≤ 17 := H2.out.2.2.2
    clear hS hg2 hS1 hS2 H1 HL
    go_wp2_with fail
    go_loopw [52] (fun i wr => ∃ z : Nat, z ≤ K ∧ i = .int .i64 z ∧ Hid (w2.grownBy wr none)) (fun i _ => K - (intOf i).toNat)
    case atStart => exact ⟨0, by omega, rfl, gb_refl _ _⟩
    case round =>
      obtain ⟨z, hz, rfl, hP⟩ := hrel
      by_cases hlt : z < K
      · have hzi : (z : Int) < (K : Int) := by omega
        obtain ⟨a', c', he, -, -, hc⟩ := H2.out.2.1.keep hP.out
        simp only [Value.slice.injEq] at he
        obtain ⟨rfl, -, rfl⟩ := he
        obtain ⟨b2, o2, ax, nx, cx, rfl, y0, y1⟩ := hc z hlt
        obtain ⟨a', c', he, -, -, hc'⟩ := H2.out.2.2.1.keep hP.out
        simp only [Value.slice.injEq] at he
        obtain ⟨rfl, -, rfl⟩ := he
        obtain ⟨b3, o3, ay, ny, cy, rfl, x0, x1⟩ := hc' z hlt
        have s1 := run_strU y1
        have s2 := run_strU x1
        have s3 := run_strU (y1.keep (gb_drew _ none))
        have s4 := run_strU (x1.keep (gb_drew _ none))
        clear hc hc' y1 x1
        generalize ckB (pieceL L z) = X at *
        go_wp2_with fail
        go_region_with (fail)
        all_goals
          go_wp2_with fail
          go_roundw
          case rel => exact ⟨z + 1, by omega, by go_num, gb_none hP.out (gb_drew _ _)⟩
          case measure => simp [intOf]; omega
      · have hzi : ¬ (z : Int) < (K : Int) := by omega
        obtain rfl : z = K := by omega
        have H3 := hidJ (gb_none H2.out.1 hP.out)
        clear hP H2
        generalize wr = w3 at *
        go_upto_if 69 with fail
        go_cut [1] from 18 (fun s wc => s = .slice a1 (min 20 n) c1 ∧ wc = w3)
        case first =>
          by_cases hbig : 20 < n
          · have hbi : (20 : Int) < (n : Int) := by omega
            have hbc : (20 : Int) ≤ (c1 : Int) := by have := HU.out.2.2.1; omega
            have hq : Hid (min 20 n = 20) := by show min 20 n = 20; omega
            generalize min 20 n = qn at *
            go_wp2_with fail
            go_meet
            case rel => exact ⟨by rw [hq.out], rfl⟩
          · have hbi : ¬ (20 : Int) < (n : Int) := by omega
            have hq : Hid (min 20 n = n) := by show min 20 n = n; omega
            generalize min 20 n = qn at *
            go_wp2_with fail
            go_meet
            case rel => exact ⟨by rw [hq.out], rfl⟩
        case rest =>
          obtain ⟨rfl, hwc⟩ := hcut
          have hwc := hwc.symm
          subst hwc
          obtain ⟨m, hm⟩ : ∃ m, min 20 n = m := ⟨_, rfl⟩
          have HM : Hid (RdBs w (.slice a1 m c1) m f ∧ m ≤ 20 ∧ (∀ j, j < m → (f j).length < 281474976710656) ∧ Tk w) := ⟨HU.out.1.begin m (by omega), by omega, fun j hj => HU.out.2.1 j (by omega), HU.out.2.2.2⟩
          rw [hm]
          clear HU hm
          go_wp2_with fail
          refine (ckJoin_any w3 _ m f (HM.out.1.keep H3.out) HM.out.2.2.1 (HM.out.2.2.2.keep H3.out) HM.out.2.1).mono ?_
          rintro e w4 ⟨v4, rfl, hr4, hg4⟩
          have H4 := hidJ (And.intro hr4 (gb_none H3.out hg4))
          clear hr4 hg4 H3
          go_wp2_with fail
          refine (dJoin_of HDec.out w4 _ m f (HM.out.1.keep H4.out.2) HM.out.2.1).mono ?_
          rintro e w5 ⟨v5, rfl, hr5, hg5⟩
          have H5 : Hid (RdP w5 v4 (joinR f m).1 ∧ RdP w5 v5 (joinR f m).1 ∧ w.grownBy w5 none) := ⟨H4.out.1.keep hg5, hr5, gb_none H4.out.2 hg5⟩
          clear hr5 hg5 H4 HM HDec
          generalize joinR f m = R at *
          obtain ⟨out, qj, ij⟩ := R
          go_wp2_with fail
          refine (refSame_any w5 _ _ out out H5.out.1 H5.out.2.1).mono ?_
          rintro e w10 ⟨rfl, hg10⟩
          have H10 := hidJ (gb_none H5.out.2.2 hg10)
          clear hg10
          rw [decide_eq_true rfl]
          go_wp2_with fail
          refine (awake_any _).mono ?_
          rintro e w11 ⟨rfl, hg11⟩
          have H11 : Hid (Below w.heap.size w w11) := gb_below (gb_none H10.out hg11)
          clear hg11
          go_wp2
          go_ret
          exact ⟨rfl, H11.out⟩
end Go.Proofs.YtkiefmhampfhoaaDoor
