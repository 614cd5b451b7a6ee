/-
  LxDc, LxDd, LxDe, LxDf, LxDg, in one text.
-/
import Derived.Test.YtifjdfmmafbhkaaGreatDoorLxDb
import Derived.Test.YtifjdfmmafbhkaaGreatDoorLxGC
import Derived.Deep.QuietTactic
/- LxDc -/
namespace Go.Proofs.YtifjdfmmafbhkaaGreatDoor
open Go.RowKit

/-- does the unit stand there, as the document asks? -/
def unD (l : LxS) (d i : Nat) : Bool := unP (l.drop d) i && !(decide (i = 4) && decide (byN l (d + 1) = 115))
theorem unD_iff (l : LxS) (d i : Nat) : unD l d i = true ↔ unP (l.drop d) i = true ∧ ¬ (i = 4 ∧ byN l (d + 1) = 115) := by
  unfold unD
  simp only [Bool.and_eq_true, Bool.not_eq_true', Bool.and_eq_false_iff, decide_eq_false_iff_not]
  constructor
  · rintro ⟨h1, h2⟩
    exact ⟨h1, fun h => h2.elim (fun e => e h.1) (fun e => e h.2)⟩
  · rintro ⟨h1, h2⟩
    refine ⟨h1, ?_⟩
    by_cases c : i = 4
    · exact Or.inr (fun e => h2 ⟨c, e⟩)
    · exact Or.inl c
/-- the unit that stands there is the one that the project finds -/
theorem unD_unG (l : LxS) (d frm i : Nat) (hf : frm ≤ i) (hi : i < 7) : unD l d i = true ↔ unG (l.drop d) frm 7 = i := by
  rw [unD_iff]
  have hu := fun j => @unP_iff (l.drop d) j
  simp only [byN_drop, Nat.add_zero] at hu
  have hr := unG_range (l.drop d) frm 7 (Nat.le_refl _)
  constructor
  · rintro ⟨h1, h2⟩
    refine unG_eq _ _ _ _ (fun k' a b => ?_) hi hf h1
    rw [Bool.eq_false_iff]
    intro hc
    rw [hu] at hc h1
    omega
  · intro h
    rcases hr with hr | ⟨hr1, hr2, hr3⟩
    · omega
    · rw [h] at hr3
      refine ⟨hr3, ?_⟩
      rintro ⟨e1, e2⟩
      subst e1
      have h4 := (hu 4).1 hr3
      have h6 : unP (l.drop d) 6 = true := (hu 6).2 (by omega)
      have : unG (l.drop d) frm 7 = 6 := unG_eq _ _ _ _ (fun k' a b => by omega) (by omega) (by omega) h6
      omega
theorem unD_none (l : LxS) (d frm : Nat) (h : ∀ i, frm ≤ i → i < 7 → unD l d i = false) : unG (l.drop d) frm 7 = 7 := by
  rcases unG_range (l.drop d) frm 7 (Nat.le_refl _) with hr | ⟨hr1, hr2, hr3⟩
  · exact hr
  · have := (unD_unG l d frm _ hr1 hr2).2 rfl
    rw [h _ hr1 hr2] at this
    cases this
/-- the table of units in memory -/
def UnB (w : World) (b : Nat) : Prop := ∀ i, i < 7 → w.cell? ⟨b, i * 2, none⟩ = some (.string (ByteArray.mk ⟨unS i⟩))
theorem UnB.keep {w w' : World} {b : Nat} (h : UnB w b) (hg : w.grownBy w' none) : UnB w' b := fun i hi => cell_keep hg (h i hi)
theorem units_any (w : World) : Calls Tryz.prog 61 #[] w fun e w' => ∃ b, e = .returned (.slice (some ⟨b, 0, none⟩) 7 7) ∧ UnB w' b ∧ w.grownBy w' none := by
  have HG := hidJ (World.grownBy_alloc w (.cells #[.string ⟨#[121]⟩, .int .i64 31536000000, .string ⟨#[119]⟩, .int .i64 604800000, .string ⟨#[100]⟩, .int .i64 86400000, .string ⟨#[104]⟩, .int .i64 3600000, .string ⟨#[109]⟩, .int .i64 60000, .string ⟨#[115]⟩, .int .i64 1000, .string ⟨#[109, 115]⟩, .int .i64 1] 98) none)
  have HB : Hid (UnB (w.alloc (.cells #[.string ⟨#[121]⟩, .int .i64 31536000000, .string ⟨#[119]⟩, .int .i64 604800000, .string ⟨#[100]⟩, .int .i64 86400000, .string ⟨#[104]⟩, .int .i64 3600000, .string ⟨#[109]⟩, .int .i64 60000, .string ⟨#[115]⟩, .int .i64 1000, .string ⟨#[109, 115]⟩, .int .i64 1] 98)) w.heap.size) := fun i hi => by
    rw [Lib.cell_of_heap (alloc_at w _)]
    have : i = 0 ∨ i = 1 ∨ i = 2 ∨ i = 3 ∨ i = 4 ∨ i = 5 ∨ i = 6 := by omega
    rcases this with rfl | rfl | rfl | rfl | rfl | rfl | rfl <;> rfl
  go_enter Tryz.func61, Tryz.ntmps61
  go_wp2
  go_ret
  exact ⟨_, rfl, HB.out, HG.out⟩
end Go.Proofs.YtifjdfmmafbhkaaGreatDoor

/- LxDd -/
namespace Go.Proofs.YtifjdfmmafbhkaaGreatDoor
open Go.RowKit

def unV (u : Nat) : Int := if u = 7 then -1 else (u : Int)
theorem wrap64_idU (x : Int) (h0 : -9223372036854775808 ≤ x) (h1 : x ≤ 9223372036854775807) : IntKind.i64.wrap x = x := by
  simp [IntKind.wrap, IntKind.signed, IntKind.bits]
  omega
set_option maxRecDepth 8000 in
set_option maxHeartbeats 6400000 in
theorem refUnit_any (w : World) (l : LxS) (d frm : Nat) (hl : l.length ≤ 1000000000000000000) (hd : d ≤ l.length) (hf : frm ≤ 7) :
    Calls Tryz.prog 60 #[.string (ByteArray.mk ⟨l⟩), .int .i64 (d : Int), .int .i64 (frm : Int)] w fun e w' => e = .returned (.int .i64 (unV (unG (l.drop d) frm 7))) ∧ w.grownBy w' none := by
  have hz : (ByteArray.mk ⟨l⟩).size = l.length := rfl
  have HG := hidJ (fun i => unD_unG l d frm i)
  have HN := hidJ (unD_none l d frm)
  generalize unG (l.drop d) frm 7 = u at *
  go_enter Tryz.func60, Tryz.ntmps60
  go_wp2_with fail
  refine (units_any w).mono ?_
  rintro e w1 ⟨b, rfl, hb1, hg1⟩
  have H1 := hidJ (And.intro hb1 hg1)
  clear hb1 hg1
  have hlenU := fun W ty => run_len_slice (P := Tryz.prog) W 99 ty (some ⟨b, 0, none⟩) 7 7 (by simp [Program.elem, Tryz.underlying99])
  go_wp2_with fail
  go_loopg [8] 8 (fun gk v8 wr => ∃ i : Nat, v8 = .int .i64 (i : Int) ∧ 7 < i + gk ∧ frm ≤ i ∧ i ≤ 7 ∧ Hid ((∀ j, frm ≤ j → j < i → unD l d j = false) ∧ UnB wr b ∧ w.grownBy wr none))
  case atStart => exact ⟨frm, rfl, by omega, Nat.le_refl _, hf, fun j h1 h2 => absurd h2 (by omega), H1.out⟩
  case round =>
    obtain ⟨i, rfl, hg, hfi, hi7, hr⟩ := hrel
    by_cases hlt : i < 7
    · obtain ⟨k, rfl⟩ : ∃ k, gk = k + 1 := ⟨gk - 1, by omega⟩
      have hli : (i : Int) < 7 := by omega
      have y0 := hr.out.2.1 i hlt
      have hiff := HG.out i hfi hlt
      have hpre := unS_pre (l.drop d) i hlt
      have hnl := unS_len i hlt
      have hnn : 1 ≤ unL i ∧ unL i ≤ 2 := by unfold unL; split <;> decide
      have HD := hidJ (show unD l d i = (unP (l.drop d) i && !(decide (i = 4) && decide (byN l (d + 1) = 115))) from rfl)
      have hzS : (ByteArray.mk ⟨unS i⟩).size = unL i := hnl
      have hU4 : (unS i == [109]) = decide (i = 4) := by
        have : i = 0 ∨ i = 1 ∨ i = 2 ∨ i = 3 ∨ i = 4 ∨ i = 5 ∨ i = 6 := by omega
        rcases this with h | h | h | h | h | h | h <;> subst h <;> rfl
      have hIff := hidJ hiff
      have HU4 := hidJ hU4
      rw [hnl] at hpre
      have HPre := hidJ hpre
      clear hiff hU4 hpre hnl
      generalize hUS : unS i = US at *
      generalize unL i = n at *
      by_cases c1 : n ≤ l.length - d
      · have hm : IntKind.i64.wrap ((l.length : Int) - (d : Int)) = (l.length : Int) - (d : Int) := wrap64_idU _ (by omega) (by omega)
        have hm2 : IntKind.i64.wrap ((d : Int) + (n : Int)) = (d : Int) + (n : Int) := wrap64_idU _ (by omega) (by omega)
        have hm3 : IntKind.i64.wrap ((d : Int) + 1) = (d : Int) + 1 := wrap64_idU _ (by omega) (by omega)
        have c1i : (n : Int) ≤ (l.length : Int) - (d : Int) := by omega
        have c1j : decide ((n : Int) ≤ (l.length : Int) - (d : Int)) = true := decide_eq_true c1i
        have hx : (ByteArray.mk ⟨l⟩).extract d (d + n) = ByteArray.mk ⟨(l.drop d).take n⟩ := by rw [ext_mk, Nat.add_sub_cancel_left]
        have hsl : ∀ W, (Instr.slice 9 (.string (ByteArray.mk ⟨l⟩)) (some (.int .i64 (d : Int))) (some (.int .i64 ((d : Int) + (n : Int)))) none).run Tryz.prog W = .ok (.string (ByteArray.mk ⟨(l.drop d).take n⟩)) W := fun W => by
          rw [run_slice_string W 9 (ByteArray.mk ⟨l⟩) .i64 .i64 (d : Int) ((d : Int) + (n : Int)) Tryz.underlying9 (by omega) (by omega) (by rw [hz]; omega), ← hx]
          rfl
        clear hx
        generalize (l.drop d).take n = st at *
        by_cases c2 : st = US
        · have hP : unP (l.drop d) i = true := by rw [← HPre.out]; exact decide_eq_true c2
          by_cases c4 : i = 4
          · have hnD : US = [109] := by rw [← hUS, c4]; rfl
            have hn1 : n = 1 := by rw [← hzS]; show US.length = 1; rw [hnD]; rfl
            subst hn1
            subst c2
            subst hnD
            have HDu := hidJ (show unD l d i = !(decide (byN l (d + 1) = 115)) from by rw [HD.out, hP, decide_eq_true c4]; simp)
            have heq : ((ByteArray.mk ⟨[109]⟩).toList == (ByteArray.mk ⟨[109]⟩).toList) = true := by simp
            have c1k : decide ((1 : Int) ≤ (l.length : Int) - (d : Int)) = true := c1j
            have c1l : (1 : Int) ≤ (l.length : Int) - (d : Int) := c1i
            have hsl1 : ∀ W, (Instr.slice 9 (.string (ByteArray.mk ⟨l⟩)) (some (.int .i64 (d : Int))) (some (.int .i64 ((d : Int) + 1))) none).run Tryz.prog W = .ok (.string (ByteArray.mk ⟨[109]⟩)) W := hsl
            clear hP hzS hUS HPre HD HU4 hnn c4 hsl c1i c1j hm2
            by_cases c5 : d + 1 < l.length
            · have c5i : (d : Int) + 1 < (l.length : Int) := by omega
              have c5j : decide ((d : Int) + 1 < (l.length : Int)) = true := decide_eq_true c5i
              obtain ⟨x, hx, hxi⟩ := byte_at l (d + 1) c5
              by_cases c6 : x.toNat = 115
              · have c6i : (x.toNat : Int) = 115 := by omega
                have HDf := hidJ (show unD l d i = false from by rw [HDu.out, ← hx, decide_eq_true c6]; rfl)
                clear HDu hx c6
                go_wp2_with fail
                go_quiet (fail)
                have hgd : wr.grownBy (wr.drewN nq) none := ⟨rfl, rfl, rfl, Nat.le_refl _, fun _ _ _ => rfl⟩
                have HR2 := hidJ (And.intro (hr.out.2.1.keep hgd) (gb_none hr.out.2.2 hgd))
                have HJ2 := hidJ hr.out.1
                clear hgd hr y0
                generalize wr.drewN nq = W3 at *
                go_wp2
                go_roundg k
                case measure => omega
                case rel => exact ⟨i + 1, by go_num, by omega, by omega, by omega, fun j h1 h2 => by
                  by_cases hj : j < i
                  · exact HJ2.out j h1 hj
                  · obtain rfl : j = i := by omega
                    exact HDf.out, HR2.out.1, HR2.out.2⟩
              · have c6i : ¬ (x.toNat : Int) = 115 := by omega
                have c6j : ((x.toNat : Int) == 115) = false := by rw [beq_eq_false_iff_ne]; exact c6i
                have HDt := hidJ (show unD l d i = true from by rw [HDu.out, ← hx, decide_eq_false c6]; rfl)
                clear HDu hx c6
                go_wp2_with fail
                go_quiet (fail)
                have hgd : wr.grownBy (wr.drewN nq) none := ⟨rfl, rfl, rfl, Nat.le_refl _, fun _ _ _ => rfl⟩
                have HR2 := hidJ (gb_none hr.out.2.2 hgd)
                have hu : u = i := hIff.out.1 HDt.out
                subst hu
                clear hgd hr y0
                generalize wr.drewN nq = W3 at *
                go_wp2
                go_ret
                exact ⟨by unfold unV; rw [if_neg (by omega)]; rfl, HR2.out⟩
            · have c5i : ¬ (d : Int) + 1 < (l.length : Int) := by omega
              have c5j : decide ((d : Int) + 1 < (l.length : Int)) = false := decide_eq_false c5i
              have HDt := hidJ (show unD l d i = true from by rw [HDu.out, byN_out l _ (by omega)]; rfl)
              clear HDu
              go_wp2_with fail
              go_quiet (fail)
              have hgd : wr.grownBy (wr.drewN nq) none := ⟨rfl, rfl, rfl, Nat.le_refl _, fun _ _ _ => rfl⟩
              have HR2 := hidJ (gb_none hr.out.2.2 hgd)
              have hu : u = i := hIff.out.1 HDt.out
              subst hu
              clear hgd hr y0
              generalize wr.drewN nq = W3 at *
              go_wp2
              go_ret
              exact ⟨by unfold unV; rw [if_neg (by omega)]; rfl, HR2.out⟩
          · have HDt := hidJ (show unD l d i = true from by rw [HD.out, hP, decide_eq_false c4]; rfl)
            have hn9 : ((ByteArray.mk ⟨US⟩).toList == (ByteArray.mk ⟨[109]⟩).toList) = false := by rw [mk_toList, mk_toList, HU4.out, decide_eq_false c4]
            have hnB : (US == [109]) = false := by rw [HU4.out, decide_eq_false c4]
            have hnC : ¬ US = [109] := by rwa [beq_eq_false_iff_ne] at hnB
            have hnA : ((ByteArray.mk ⟨US⟩).toList == [109]) = false := by rw [mk_toList]; exact hnB
            have hnD : ¬ (ByteArray.mk ⟨US⟩ = ByteArray.mk #[109]) := fun e => hnC (by injection e with e; injection e)
            subst c2
            have heq : ((ByteArray.mk ⟨st⟩).toList == (ByteArray.mk ⟨st⟩).toList) = true := by simp
            clear hP
            go_wp2_with fail
            go_quiet (fail)
            have hgd : wr.grownBy (wr.drewN nq) none := ⟨rfl, rfl, rfl, Nat.le_refl _, fun _ _ _ => rfl⟩
            have HR2 := hidJ (gb_none hr.out.2.2 hgd)
            have hu : u = i := hIff.out.1 HDt.out
            subst hu
            clear hgd hr y0
            generalize wr.drewN nq = W3 at *
            go_wp2
            go_ret
            exact ⟨by unfold unV; rw [if_neg (by omega)]; rfl, HR2.out⟩
        · have HDf := hidJ (show unD l d i = false from by rw [HD.out, ← HPre.out, decide_eq_false c2]; rfl)
          have heq : ((ByteArray.mk ⟨st⟩).toList == (ByteArray.mk ⟨US⟩).toList) = false := by rw [mk_toList, mk_toList, beq_eq_false_iff_ne]; exact c2
          have heq2 : (st == US) = false := by rw [beq_eq_false_iff_ne]; exact c2
          clear c2
          go_wp2_with fail
          go_quiet (fail)
          have hgd : wr.grownBy (wr.drewN nq) none := ⟨rfl, rfl, rfl, Nat.le_refl _, fun _ _ _ => rfl⟩
          have HR2 := hidJ (And.intro (hr.out.2.1.keep hgd) (gb_none hr.out.2.2 hgd))
          have HJ2 := hidJ hr.out.1
          clear hgd hr y0
          generalize wr.drewN nq = W3 at *
          go_wp2
          go_roundg k
          case measure => omega
          case rel => exact ⟨i + 1, by go_num, by omega, by omega, by omega, fun j h1 h2 => by
            by_cases hj : j < i
            · exact HJ2.out j h1 hj
            · obtain rfl : j = i := by omega
              exact HDf.out, HR2.out.1, HR2.out.2⟩
      · have hm : IntKind.i64.wrap ((l.length : Int) - (d : Int)) = (l.length : Int) - (d : Int) := wrap64_idU _ (by omega) (by omega)
        have c1i : ¬ (n : Int) ≤ (l.length : Int) - (d : Int) := by omega
        have c1j : decide ((n : Int) ≤ (l.length : Int) - (d : Int)) = false := decide_eq_false c1i
        have hDf : unD l d i = false := by
          rw [HD.out, ← HPre.out, decide_eq_false]
          · rfl
          · intro e
            have := congrArg List.length e
            rw [List.length_take, List.length_drop, ← hzS] at this
            have h2 : (ByteArray.mk ⟨US⟩).size = US.length := rfl
            omega
        have HDf := hidJ hDf
        clear hDf
        go_wp2_with fail
        go_quiet (fail)
        have hgd : wr.grownBy (wr.drewN nq) none := ⟨rfl, rfl, rfl, Nat.le_refl _, fun _ _ _ => rfl⟩
        have HR2 := hidJ (And.intro (hr.out.2.1.keep hgd) (gb_none hr.out.2.2 hgd))
        have HJ2 := hidJ hr.out.1
        clear hgd hr y0
        generalize wr.drewN nq = W3 at *
        go_wp2
        go_roundg k
        case measure => omega
        case rel => exact ⟨i + 1, by go_num, by omega, by omega, by omega, fun j h1 h2 => by
          by_cases hj : j < i
          · exact HJ2.out j h1 hj
          · obtain rfl : j = i := by omega
            exact HDf.out, HR2.out.1, HR2.out.2⟩
    · obtain rfl : i = 7 := by omega
      have hu := HN.out (fun j h1 h2 => hr.out.1 j h1 h2)
      subst hu
      have HR2 := hidJ hr.out.2.2
      clear hr
      go_wp2
      go_ret
      exact ⟨rfl, HR2.out⟩
end Go.Proofs.YtifjdfmmafbhkaaGreatDoor

/- LxDe -/
namespace Go.Proofs.YtifjdfmmafbhkaaGreatDoor
open Go.RowKit

set_option maxRecDepth 8000 in
set_option maxHeartbeats 3200000 in
theorem refSpan_any (w : World) (l : LxS) (p : Nat) (hl : l.length ≤ 1000000000000000000) (hp : p ≤ l.length) :
    Calls Tryz.prog 41 #[.string (ByteArray.mk ⟨l⟩), .int .i64 (p : Int)] w fun e w' => e = .returned (.int .i64 ((p + (spW (l.drop p)).2 : Nat) : Int)) ∧ w.grownBy w' none := by
  have hz : (ByteArray.mk ⟨l⟩).size = l.length := rfl
  have HS : Hid (∃ n, (spG (l.drop p) 8 0 0 n).2 = (spW (l.drop p)).2) := ⟨0, rfl⟩
  obtain ⟨RR, hRR⟩ : ∃ RR, p + (spW (l.drop p)).2 = RR := ⟨_, rfl⟩
  rw [hRR]
  have HRR := hidJ hRR
  generalize (spW (l.drop p)).2 = R at *
  clear hRR
  have HRn := hidJ (fun W k h => refRun_any W l k hl h)
  have HUn := hidJ (fun W k f h h2 => refUnit_any W l k f hl h h2)
  go_enter Tryz.func41, Tryz.ntmps41
  go_wp2_with fail
  go_loopg [5, 6] 9 (fun gk v5 v6 wr => ∃ k frm : Nat, v5 = .int .i64 (k : Int) ∧ v6 = .int .i64 (frm : Int) ∧ 8 < frm + gk ∧ frm ≤ 7 ∧ p ≤ k ∧ k ≤ l.length ∧ Hid ((∃ f n, 8 ≤ f + frm ∧ (spG (l.drop p) f frm (k - p) n).2 = R) ∧ w.grownBy wr none))
  case atStart => exact ⟨p, 0, rfl, rfl, by omega, by omega, Nat.le_refl _, hp, by
    obtain ⟨n, hn⟩ := HS.out
    exact ⟨8, n, by omega, by rw [Nat.sub_self]; exact hn⟩, gb_refl _ _⟩
  case round =>
    obtain ⟨k, frm, rfl, rfl, hg, hfr, hpk, hkl, hr⟩ := hrel
    obtain ⟨gk, rfl⟩ : ∃ g, gk = g + 1 := ⟨gk - 1, by omega⟩
    obtain ⟨⟨f, n, hf, hsp⟩, hgr⟩ := hr.out
    have HG := hidJ hgr
    obtain ⟨f, rfl⟩ : ∃ g, f = g + 1 := ⟨f - 1, by omega⟩
    have hdk : (l.drop p).drop (k - p) = l.drop k := by rw [List.drop_drop, show p + (k - p) = k by omega]
    have HC1 := hidJ (HRn.out wr k hkl)
    have htl := tkN_le dgB (l.drop k)
    rw [List.length_drop] at htl
    rw [spG, hdk] at hsp
    clear hr hgr HS HRn
    obtain ⟨d, hd⟩ : ∃ d, k + tkN dgB (l.drop k) = d := ⟨_, rfl⟩
    rw [hd] at HC1
    have hdk2 : (l.drop p).drop (k - p + tkN dgB (l.drop k)) = l.drop d := by rw [List.drop_drop, show p + (k - p + tkN dgB (l.drop k)) = d by omega]
    rw [hdk2] at hsp
    have hdl : d ≤ l.length := by omega
    have HCu := hidJ (HUn.out wr d frm hdl hfr)
    by_cases c1 : tkN dgB (l.drop k) = 0
    · rw [if_pos c1] at hsp
      have hRk : RR = k := by
        have h1 := HRR.out
        have h2 : k - p = R := hsp
        omega
      have hdk3 : d = k := by omega
      subst hRk
      subst hdk3
      clear hsp HCu HUn HRR hdk hdk2 c1 htl hd
      go_wp2_with fail
      refine HC1.out.mono ?_
      rintro e w2 ⟨rfl, rfl⟩
      go_wp2
      go_ret
      exact ⟨rfl, HG.out⟩
    · rw [if_neg c1] at hsp
      have hne : ¬ (d : Int) = (k : Int) := by omega
      have hnej : ((d : Int) == (k : Int)) = false := by rw [beq_eq_false_iff_ne]; exact hne
      have hrg := unG_range (l.drop d) frm 7 (Nat.le_refl _)
      have hpl := fun i => unP_length (l.drop d) i
      generalize unG (l.drop d) frm 7 = u at *
      by_cases c2 : u = 7
      · rw [if_pos c2] at hsp
        have hRk : RR = k := by
          have h1 := HRR.out
          have h2 : k - p = R := hsp
          omega
        subst hRk
        subst c2
        have hv : unV 7 = -1 := rfl
        rw [hv] at HCu
        clear hsp HUn HRR hdk hdk2 c1 htl hd hrg hv hpl
        go_wp2_with fail
        refine HC1.out.mono ?_
        rintro e w2 ⟨rfl, rfl⟩
        go_wp2_with fail
        refine HCu.out.mono ?_
        rintro e w3 ⟨rfl, hg3⟩
        have H3 := hidJ (gb_none HG.out hg3)
        clear hg3
        go_wp2
        go_ret
        exact ⟨rfl, H3.out⟩
      · rw [if_neg c2] at hsp
        obtain ⟨hu1, hu2, hu3⟩ := hrg.resolve_left c2
        have hv : unV u = (u : Int) := if_neg c2
        rw [hv] at HCu
        have hul := hpl u hu3
        rw [List.length_drop] at hul
        have hzS : (ByteArray.mk ⟨unS u⟩).size = unL u := unS_len u hu2
        have hnn : 1 ≤ unL u ∧ unL u ≤ 2 := by unfold unL; split <;> decide
        have HSp : Hid (∃ f n, 8 ≤ f + (u + 1) ∧ (spG (l.drop p) f (u + 1) (d + unL u - p) n).2 = R) := ⟨f, _, by omega, by rw [show d + unL u - p = k - p + tkN dgB (l.drop k) + unL u by omega]; exact hsp⟩
        have hu0 : ¬ (u : Int) < 0 := by omega
        have hkd : k ≤ d := by omega
        have hu7 : (u : Int) < 7 := by omega
        clear hsp HUn HRR hdk hdk2 c1 htl hd hrg hv hpl hu3 c2
        generalize unL u = n9 at *
        go_wp2_with fail
        refine HC1.out.mono ?_
        rintro e w2 ⟨rfl, rfl⟩
        go_wp2_with fail
        refine HCu.out.mono ?_
        rintro e w3 ⟨rfl, hg3⟩
        have H3 := hidJ (gb_none HG.out hg3)
        clear hg3
        go_wp2_with fail
        refine (units_any w3).mono ?_
        rintro e w4 ⟨b, rfl, hb4, hg4⟩
        have H4 := hidJ (gb_none H3.out hg4)
        have y0 := hb4 u hu2
        clear hb4 hg4
        go_wp2
        go_roundg gk
        case measure => omega
        case rel => exact ⟨d + n9, u + 1, by go_num, by go_num, by omega, by omega, by omega, by omega, HSp.out, H4.out⟩
end Go.Proofs.YtifjdfmmafbhkaaGreatDoor

/- LxDf -/
namespace Go.Proofs.YtifjdfmmafbhkaaGreatDoor
open Go.RowKit

def siL : List LxS := [[33, 61], [61, 126], [33, 126], [61, 61], [62, 61], [60, 61], [40], [41], [123], [125], [91], [93], [44], [61], [43], [45], [42], [47], [37], [94], [62], [60]]
def siP (l : LxS) (x : LxS) : Bool := decide (l.take x.length = x)
/-- the first sign of the document's that stands there -/
def siW (l : LxS) : LxS := (siL.find? (siP l)).getD []
theorem find_first (P : LxS → Bool) (L : List LxS) : ∀ i, i < L.length → (∀ j, j < i → P (L.getD j []) = false) → P (L.getD i []) = true → L.find? P = some (L.getD i []) := by
  induction L with
  | nil => intro i hi; simp at hi
  | cons x L ih =>
    intro i hi h1 h2
    cases i with
    | zero => rw [List.find?_cons_of_pos (by exact h2)]; rfl
    | succ i =>
      have h0 := h1 0 (by omega)
      rw [List.find?_cons_of_neg (by
        have h0 : P x = false := h0
        rw [h0]
        simp)]
      exact ih i (by simpa using hi) (fun j hj => h1 (j + 1) (by omega)) h2
theorem find_no (P : LxS → Bool) (L : List LxS) (h : ∀ j, j < L.length → P (L.getD j []) = false) : L.find? P = none := by
  induction L with
  | nil => rfl
  | cons x L ih =>
    have h0 : P x = false := h 0 (by simp)
    rw [List.find?_cons_of_neg (by rw [h0]; simp)]
    exact ih (fun j hj => h (j + 1) (by simpa using hj))
/-- the signs in memory -/
def SiB (w : World) (b : Nat) : Prop := ∀ i, i < 22 → w.cell? ⟨b, i, none⟩ = some (.string (ByteArray.mk ⟨siL.getD i []⟩))
theorem SiB.keep {w w' : World} {b : Nat} (h : SiB w b) (hg : w.grownBy w' none) : SiB w' b := fun i hi => cell_keep hg (h i hi)
theorem signs_any (w : World) : Calls Tryz.prog 62 #[] w fun e w' => ∃ b, e = .returned (.slice (some ⟨b, 0, none⟩) 22 22) ∧ SiB w' b ∧ w.grownBy w' none := by
  have HG := hidJ (World.grownBy_alloc w (.cells #[.string ⟨#[33, 61]⟩, .string ⟨#[61, 126]⟩, .string ⟨#[33, 126]⟩, .string ⟨#[61, 61]⟩, .string ⟨#[62, 61]⟩, .string ⟨#[60, 61]⟩, .string ⟨#[40]⟩, .string ⟨#[41]⟩, .string ⟨#[123]⟩, .string ⟨#[125]⟩, .string ⟨#[91]⟩, .string ⟨#[93]⟩, .string ⟨#[44]⟩, .string ⟨#[61]⟩, .string ⟨#[43]⟩, .string ⟨#[45]⟩, .string ⟨#[42]⟩, .string ⟨#[47]⟩, .string ⟨#[37]⟩, .string ⟨#[94]⟩, .string ⟨#[62]⟩, .string ⟨#[60]⟩] 9) none)
  have HB : Hid (SiB (w.alloc (.cells #[.string ⟨#[33, 61]⟩, .string ⟨#[61, 126]⟩, .string ⟨#[33, 126]⟩, .string ⟨#[61, 61]⟩, .string ⟨#[62, 61]⟩, .string ⟨#[60, 61]⟩, .string ⟨#[40]⟩, .string ⟨#[41]⟩, .string ⟨#[123]⟩, .string ⟨#[125]⟩, .string ⟨#[91]⟩, .string ⟨#[93]⟩, .string ⟨#[44]⟩, .string ⟨#[61]⟩, .string ⟨#[43]⟩, .string ⟨#[45]⟩, .string ⟨#[42]⟩, .string ⟨#[47]⟩, .string ⟨#[37]⟩, .string ⟨#[94]⟩, .string ⟨#[62]⟩, .string ⟨#[60]⟩] 9)) w.heap.size) := fun i hi => by
    rw [Lib.cell_of_heap (alloc_at w _)]
    have : i = 0 ∨ i = 1 ∨ i = 2 ∨ i = 3 ∨ i = 4 ∨ i = 5 ∨ i = 6 ∨ i = 7 ∨ i = 8 ∨ i = 9 ∨ i = 10 ∨ i = 11 ∨ i = 12 ∨ i = 13 ∨ i = 14 ∨ i = 15 ∨ i = 16 ∨ i = 17 ∨ i = 18 ∨ i = 19 ∨ i = 20 ∨ i = 21 := by omega
    rcases this with rfl | rfl | rfl | rfl | rfl | rfl | rfl | rfl | rfl | rfl | rfl | rfl | rfl | rfl | rfl | rfl | rfl | rfl | rfl | rfl | rfl | rfl <;> rfl
  go_enter Tryz.func62, Tryz.ntmps62
  go_wp2
  go_ret
  exact ⟨_, rfl, HB.out, HG.out⟩
set_option maxRecDepth 8000 in
set_option maxHeartbeats 6400000 in
theorem refSign_any (w : World) (l : LxS) (d : Nat) (hl : l.length ≤ 1000000000000000000) (hd : d ≤ l.length) :
    Calls Tryz.prog 42 #[.string (ByteArray.mk ⟨l⟩), .int .i64 (d : Int)] w fun e w' => e = .returned (.string (ByteArray.mk ⟨siW (l.drop d)⟩)) ∧ w.grownBy w' none := by
  have hz : (ByteArray.mk ⟨l⟩).size = l.length := rfl
  have HF := hidJ (fun i => find_first (siP (l.drop d)) siL i)
  have HN := hidJ (find_no (siP (l.drop d)) siL)
  have HW : Hid (siW (l.drop d) = (siL.find? (siP (l.drop d))).getD []) := rfl
  have HL22 : Hid (siL.length = 22) := rfl
  have HLn := hidJ (show ∀ i, i < 22 → 1 ≤ (siL.getD i []).length ∧ (siL.getD i []).length ≤ 2 by decide)
  generalize siW (l.drop d) = R at *
  go_enter Tryz.func42, Tryz.ntmps42
  go_wp2_with fail
  refine (signs_any w).mono ?_
  rintro e w1 ⟨b, rfl, hb1, hg1⟩
  have H1 := hidJ (And.intro hb1 hg1)
  clear hb1 hg1
  have hlenU := fun W ty => run_len_slice (P := Tryz.prog) W 32 ty (some ⟨b, 0, none⟩) 22 22 (by simp [Program.elem, Tryz.underlying32])
  go_wp2_with fail
  go_loopg [6] 23 (fun gk v6 wr => ∃ i : Nat, v6 = .int .i64 (i : Int) ∧ 22 < i + gk ∧ i ≤ 22 ∧ Hid ((∀ j, j < i → siP (l.drop d) (siL.getD j []) = false) ∧ SiB wr b ∧ w.grownBy wr none))
  case atStart => exact ⟨0, rfl, by omega, by omega, fun j h1 => absurd h1 (by omega), H1.out⟩
  case round =>
    obtain ⟨i, rfl, hg, hi7, hr⟩ := hrel
    by_cases hlt : i < 22
    · obtain ⟨k, rfl⟩ : ∃ k, gk = k + 1 := ⟨gk - 1, by omega⟩
      have hli : (i : Int) < 22 := by omega
      have y0 := hr.out.2.1 i hlt
      have hnn := HLn.out i hlt
      have HD := hidJ (show siP (l.drop d) (siL.getD i []) = decide ((l.drop d).take (siL.getD i []).length = siL.getD i []) from rfl)
      have HT := hidJ (HF.out i (by rw [HL22.out]; exact hlt) hr.out.1)
      have HJ2 := hidJ hr.out.1
      have HB2 := hidJ hr.out.2
      clear hr HF
      generalize hUS : siL.getD i [] = US at *
      have HUS := hidJ hUS
      clear hUS
      have hzS : (ByteArray.mk ⟨US⟩).size = US.length := rfl
      by_cases c1 : US.length ≤ l.length - d
      · have hm : IntKind.i64.wrap ((l.length : Int) - (d : Int)) = (l.length : Int) - (d : Int) := wrap64_idU _ (by omega) (by omega)
        have hm2 : IntKind.i64.wrap ((d : Int) + (US.length : Int)) = (d : Int) + (US.length : Int) := wrap64_idU _ (by omega) (by omega)
        have c1i : (US.length : Int) ≤ (l.length : Int) - (d : Int) := by omega
        have c1j : decide ((US.length : Int) ≤ (l.length : Int) - (d : Int)) = true := decide_eq_true c1i
        have hx : (ByteArray.mk ⟨l⟩).extract d (d + US.length) = ByteArray.mk ⟨(l.drop d).take US.length⟩ := by rw [ext_mk, Nat.add_sub_cancel_left]
        have hsl : ∀ W, (Instr.slice 9 (.string (ByteArray.mk ⟨l⟩)) (some (.int .i64 (d : Int))) (some (.int .i64 ((d : Int) + (US.length : Int)))) none).run Tryz.prog W = .ok (.string (ByteArray.mk ⟨(l.drop d).take US.length⟩)) W := fun W => by
          rw [run_slice_string W 9 (ByteArray.mk ⟨l⟩) .i64 .i64 (d : Int) ((d : Int) + (US.length : Int)) Tryz.underlying9 (by omega) (by omega) (by rw [hz]; omega), ← hx]
          rfl
        clear hx
        generalize (l.drop d).take US.length = st at *
        by_cases c2 : st = US
        · have hRU : R = US := by rw [HW.out, HT.out (by rw [HD.out]; exact decide_eq_true c2)]; rfl
          subst c2
          subst hRU
          have heq : ((ByteArray.mk ⟨R⟩).toList == (ByteArray.mk ⟨R⟩).toList) = true := by simp
          generalize R.length = n at *
          clear HT HD HN HW
          go_wp2_with fail
          go_quiet (fail)
          have hgd : wr.grownBy (wr.drewN nq) none := ⟨rfl, rfl, rfl, Nat.le_refl _, fun _ _ _ => rfl⟩
          have HR2 := hidJ (gb_none HB2.out.2 hgd)
          have y1 := cell_keep hgd y0
          clear hgd y0
          generalize wr.drewN nq = W3 at *
          go_wp2
          go_ret
          exact ⟨rfl, HR2.out⟩
        · have HDf := hidJ (show siP (l.drop d) US = false from by rw [HD.out]; exact decide_eq_false c2)
          have heq : ((ByteArray.mk ⟨st⟩).toList == (ByteArray.mk ⟨US⟩).toList) = false := by rw [mk_toList, mk_toList, beq_eq_false_iff_ne]; exact c2
          have heq2 : (st == US) = false := by rw [beq_eq_false_iff_ne]; exact c2
          clear c2 HT HD
          generalize US.length = n at *
          go_wp2_with fail
          go_quiet (fail)
          have hgd : wr.grownBy (wr.drewN nq) none := ⟨rfl, rfl, rfl, Nat.le_refl _, fun _ _ _ => rfl⟩
          have HR2 := hidJ (And.intro (HB2.out.1.keep hgd) (gb_none HB2.out.2 hgd))
          clear hgd y0
          generalize wr.drewN nq = W3 at *
          go_wp2
          go_roundg k
          case measure => omega
          case rel => exact ⟨i + 1, by go_num, by omega, by omega, fun j h1 => by
            by_cases hj : j < i
            · exact HJ2.out j hj
            · obtain rfl : j = i := by omega
              rw [HUS.out]
              exact HDf.out, HR2.out.1, HR2.out.2⟩
      · have hm : IntKind.i64.wrap ((l.length : Int) - (d : Int)) = (l.length : Int) - (d : Int) := wrap64_idU _ (by omega) (by omega)
        have c1i : ¬ (US.length : Int) ≤ (l.length : Int) - (d : Int) := by omega
        have c1j : decide ((US.length : Int) ≤ (l.length : Int) - (d : Int)) = false := decide_eq_false c1i
        have HDf := hidJ (show siP (l.drop d) US = false from by
          rw [HD.out, decide_eq_false]
          intro e
          have := congrArg List.length e
          rw [List.length_take, List.length_drop] at this
          omega)
        clear HT HD
        generalize US.length = n at *
        go_wp2_with fail
        go_quiet (fail)
        have hgd : wr.grownBy (wr.drewN nq) none := ⟨rfl, rfl, rfl, Nat.le_refl _, fun _ _ _ => rfl⟩
        have HR2 := hidJ (And.intro (HB2.out.1.keep hgd) (gb_none HB2.out.2 hgd))
        clear hgd y0
        generalize wr.drewN nq = W3 at *
        go_wp2
        go_roundg k
        case measure => omega
        case rel => exact ⟨i + 1, by go_num, by omega, by omega, fun j h1 => by
          by_cases hj : j < i
          · exact HJ2.out j hj
          · obtain rfl : j = i := by omega
            rw [HUS.out]
            exact HDf.out, HR2.out.1, HR2.out.2⟩
    · obtain rfl : i = 22 := by omega
      have hu : R = [] := by rw [HW.out, HN.out (fun j hj => hr.out.1 j (by rw [HL22.out] at hj; exact hj))]; rfl
      subst hu
      have HR2 := hidJ hr.out.2.2
      clear hr
      go_wp2
      go_ret
      exact ⟨rfl, HR2.out⟩
end Go.Proofs.YtifjdfmmafbhkaaGreatDoor

/- LxDg -/
namespace Go.Proofs.YtifjdfmmafbhkaaGreatDoor
open Go.RowKit

theorem find_congr (P Q : LxS → Bool) (L : List LxS) (h : ∀ x ∈ L, P x = Q x) : L.find? P = L.find? Q := by
  induction L with
  | nil => rfl
  | cons x L ih =>
    have h0 := h x (by simp)
    have h1 := ih (fun y hy => h y (by simp [hy]))
    by_cases c : P x = true
    · rw [List.find?_cons_of_pos c, List.find?_cons_of_pos (by rw [← h0]; exact c)]
    · rw [List.find?_cons_of_neg c, List.find?_cons_of_neg (by rw [← h0]; exact c), h1]
theorem siL_len : ∀ x ∈ siL, x.length ≤ 2 := by decide
theorem siP_two (a b : UInt8) (t : LxS) : ∀ x ∈ siL, siP (a :: b :: t) x = siP [a, b] x := fun x hx => by
  have h := siL_len x hx
  have e : (a :: b :: t).take x.length = [a, b].take x.length := by
    have : x.length = 0 ∨ x.length = 1 ∨ x.length = 2 := by omega
    rcases this with h | h | h <;> rw [h] <;> rfl
  unfold siP
  rw [e]
theorem siP_else (a b : UInt8) (h1 : b ≠ 61) (h2 : b ≠ 126) : ∀ x ∈ siL, siP [a, b] x = siP [a] x := fun x hx => by
  simp only [siL, List.mem_cons, List.not_mem_nil, or_false] at hx
  rcases hx with rfl | rfl | rfl | rfl | rfl | rfl | rfl | rfl | rfl | rfl | rfl | rfl | rfl | rfl | rfl | rfl | rfl | rfl | rfl | rfl | rfl | rfl <;> simp [siP, h1, h2]
theorem sgn_two (a b : UInt8) (t : LxS) : sgnW (a :: b :: t) = sgnW [a, b] := rfl
theorem sgn_else (a b : UInt8) (h1 : b ≠ 61) (h2 : b ≠ 126) : sgnW [a, b] = sgnW [a] := by
  have k1 : ¬ b.toNat = 61 := fun e => h1 (UInt8.toNat_inj.1 e)
  have k2 : ¬ b.toNat = 126 := fun e => h2 (UInt8.toNat_inj.1 e)
  unfold sgnW
  have e0 : byN [a, b] 0 = a.toNat := rfl
  have e1 : byN [a, b] 1 = b.toNat := rfl
  have f0 : byN [a] 0 = a.toNat := rfl
  have f1 : byN [a] 1 = 0 := rfl
  rw [e0, e1, f0, f1]
  have g1 : sg2 a.toNat b.toNat = false := by unfold sg2; simp [k1, k2]
  have g2 : sg2 a.toNat 0 = false := by unfold sg2; simp
  rw [g1, g2]
theorem si_fin : ∀ n : Fin 256, siW [UInt8.ofNat n.val] = [UInt8.ofNat n.val].take (sgnW [UInt8.ofNat n.val]) ∧ siW [UInt8.ofNat n.val, 61] = [UInt8.ofNat n.val, 61].take (sgnW [UInt8.ofNat n.val, 61]) ∧ siW [UInt8.ofNat n.val, 126] = [UInt8.ofNat n.val, 126].take (sgnW [UInt8.ofNat n.val, 126]) := by decide +kernel
theorem sgn_le2 (l : LxS) : sgnW l ≤ 2 := by
  unfold sgnW
  (repeat' split) <;> decide
/-- the sign -/
theorem siW_eq (l : LxS) : siW l = l.take (sgnW l) := by
  cases l with
  | nil => decide
  | cons a t =>
    have ha : UInt8.ofNat a.toNat = a := by simp
    have hf := si_fin ⟨a.toNat, a.toNat_lt⟩
    simp only [ha] at hf
    cases t with
    | nil => exact hf.1
    | cons b t =>
      have e1 : siW (a :: b :: t) = siW [a, b] := by
        unfold siW
        rw [find_congr _ _ siL (siP_two a b t)]
      have e2 : (a :: b :: t).take (sgnW [a, b]) = [a, b].take (sgnW [a, b]) := by
        have h := sgn_le2 [a, b]
        have : sgnW [a, b] = 0 ∨ sgnW [a, b] = 1 ∨ sgnW [a, b] = 2 := by omega
        rcases this with h | h | h <;> rw [h] <;> rfl
      rw [e1, sgn_two, e2]
      by_cases c1 : b = 61
      · subst c1; exact hf.2.1
      · by_cases c2 : b = 126
        · subst c2; exact hf.2.2
        · have e3 : siW [a, b] = siW [a] := by
            unfold siW
            rw [find_congr _ _ siL (siP_else a b c1 c2)]
          rw [e3, sgn_else a b c1 c2, hf.1]
          have h := sgnW_le [a]
          simp only [List.length_cons, List.length_nil] at h
          have : sgnW [a] = 0 ∨ sgnW [a] = 1 := by omega
          rcases this with h | h <;> rw [h] <;> rfl
end Go.Proofs.YtifjdfmmafbhkaaGreatDoor
