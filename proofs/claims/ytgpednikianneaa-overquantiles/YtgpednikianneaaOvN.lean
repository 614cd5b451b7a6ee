/-
  The quantile of whatever values: math.Inf, Quantile: the walks.
-/
import Derived.Test.YtgpednikianneaaOvW
import Derived.Test.YtgpednikianneaaOvSm
namespace Go.Proofs.Ytgpednikianneaa
open Go.RowKit Go.Shelf Go.Sort
attribute [local go_sem] fwor_cell fwor_frozen fwor_size

theorem inf_neg (w : World) : Calls Try.prog 15 #[.int .i64 (-1)] w fun e w' => e = .returned (.float .f64 18442240474082181120) ∧ w' = w := by
  have h3 : ∀ w, (callFunc 12 #[.int .u64 18442240474082181120]).run Try.prog w = .ok (.value (.float .f64 18442240474082181120)) w := fun w => fromBits_run _ w
  go_enter Try.func15, Try.ntmps15
  go_wp2
  go_ret
  exact ⟨rfl, rfl⟩
theorem inf_pos (w : World) : Calls Try.prog 15 #[.int .i64 1] w fun e w' => e = .returned (.float .f64 9218868437227405312) ∧ w' = w := by
  have h3 : ∀ w, (callFunc 12 #[.int .u64 9218868437227405312]).run Try.prog w = .ok (.value (.float .f64 9218868437227405312)) w := fun w => fromBits_run _ w
  go_enter Try.func15, Try.ntmps15
  go_wp2
  go_ret
  exact ⟨rfl, rfl⟩
/-- the place and the way behind it, of a row of M + 1 -/
def quK (q M : Nat) : Nat := match floatBits .mul .f64 q (floatOfInt .f64 (M : Int)) with | some k => k | none => 0
def quI (q M : Nat) : Nat := match floatToIntVal .f64 (quK q M) .i64 with | some i => i.toNat | none => 0
def quW (q M : Nat) : Nat := fopC .sub (cz (quK q M)) (cz (floatOfInt .f64 ((quI q M : Nat) : Int)))
/-- of values in order -/
def quaC (q : Nat) (s : List Nat) : Nat :=
  fopC .add (fopC .mul (cz (s.getD (quI q (s.length - 1)) 0)) (fopC .sub (cz 4607182418800017408) (quW q (s.length - 1)))) (fopC .mul (cz (s.getD (min (quI q (s.length - 1) + 1) (s.length - 1)) 0)) (quW q (s.length - 1)))
def QuP (q : Nat) (l : List Nat) (x : Nat) : Prop :=
  (nanB q = true ∧ x = 9221120237041090561) ∨ (nanB q = false ∧ (fo q 0 == some .lt) = true ∧ x = 18442240474082181120) ∨
  (nanB q = false ∧ (fo q 0 == some .lt) = false ∧ (fo q 4607182418800017408 == some .gt) = true ∧ x = 9218868437227405312) ∨
  (nanB q = false ∧ (fo q 0 == some .lt) = false ∧ (fo q 4607182418800017408 == some .gt) = false ∧ ∃ s : List Nat, s.Perm l ∧ s.Pairwise leV ∧ x = quaC q s)
set_option maxRecDepth 8000 in
set_option maxHeartbeats 12800000 in
theorem quant_any (w : World) (ad : Addr) (c q : Nat) (l : List Nat) (hrd : RdC w (some ad) (l.map flV)) (hl : l ≠ []) (hin : ∀ x ∈ l, x < 18446744073709551616) (hsz : l.length ≤ 17592186044416) :
    Calls Try.prog 7 #[.float .f64 q, .slice (some ad) l.length c] w fun e w' => ∃ v, e = .returned (.float .f64 v) ∧ QuP q l v ∧ w.grownBy w' none := by
  have HN : Hid (Calls Try.prog 14 #[.float .f64 q] w fun e w' => e = .returned (.bool (nanB q)) ∧ w' = w) := isNaN_any w q
  have HC := hidJ (cloneF_any w ad c l hrd hsz)
  have HS : Hid (∀ w1 v, OwnFl w1 w.heap.size v l → w.grownBy w1 none → ∃ g c, v = .slice (some ⟨g, 0, none⟩) l.length c ∧ l.length ≤ c ∧ c ≤ maxLen ∧ Calls Try.prog 17 #[v, .func (.func 18) #[] #[]] w1 fun e w' => e = .returned (.tuple #[]) ∧ Hid (∃ d : List Nat, d.Perm l ∧ d.Pairwise leV ∧ (∀ j, j < l.length → w'.cell? ⟨g, j, none⟩ = some (.float .f64 (d.getD j 0))) ∧ w.grownBy w' none)) := fun w1 v ho hg => by
    obtain ⟨g, c, e, h1, h2, hc⟩ := sortF_any w1 w.heap.size v l ho hl hin hsz
    refine ⟨g, c, e, h1, h2, hc.mono ?_⟩
    rintro e w' ⟨q1, d, q2, q3, q4, q5, q6⟩
    exact ⟨q1, d, q2, q3, q4, gb_new hg q5 (fun k hk => by cases hk; exact q6)⟩
  obtain ⟨M, hM⟩ : ∃ M, l.length = M + 1 := ⟨l.length - 1, by have := List.length_pos_iff.2 hl; omega⟩
  have HM := hidJ hM
  rw [hM] at HC HS hsz ⊢
  clear hM hrd hl hin
  have h3 : ∀ w, (callFunc 12 #[.int .u64 9221120237041090561]).run Try.prog w = .ok (.value (.float .f64 9221120237041090561)) w := fun w => fromBits_run _ w
  have g1 : (FloatKind.f64.format.order q 0 == some .lt) = (fo q 0 == some .lt) := rfl
  have g2 : (FloatKind.f64.format.order q 4607182418800017408 == some .gt) = (fo q 4607182418800017408 == some .gt) := rfl
  obtain ⟨QP, hQP⟩ : ∃ QP : Nat → Prop, QP = QuP q l := ⟨_, rfl⟩
  have HP1 : Hid (nanB q = true → QP 9221120237041090561) := fun h => by rw [hQP]; exact .inl ⟨h, rfl⟩
  have HP2 : Hid (nanB q = false → (fo q 0 == some .lt) = true → QP 18442240474082181120) := fun h h2 => by rw [hQP]; exact .inr (.inl ⟨h, h2, rfl⟩)
  have HP3 : Hid (nanB q = false → (fo q 0 == some .lt) = false → (fo q 4607182418800017408 == some .gt) = true → QP 9218868437227405312) := fun h h2 h4 => by rw [hQP]; exact .inr (.inr (.inl ⟨h, h2, h4, rfl⟩))
  have HP4 : Hid (nanB q = false → (fo q 0 == some .lt) = false → (fo q 4607182418800017408 == some .gt) = false → ∀ (s : List Nat) x, s.Perm l → s.Pairwise leV → x = quaC q s → QP x) := fun h h2 h4 s x a1 a2 a3 => by rw [hQP]; exact .inr (.inr (.inr ⟨h, h2, h4, s, a1, a2, a3⟩))
  have HK : Hid (nanB q = false → (fo q 0 == some .lt) = false → (fo q 4607182418800017408 == some .gt) = false → floatBits .mul .f64 q (floatOfInt .f64 (M : Int)) = some (quK q M) ∧ floatToIntVal .f64 (quK q M) .i64 = some ((quI q M : Nat) : Int) ∧ quI q M ≤ M) := fun h h2 h4 => by
    obtain ⟨k, i, e1, e2, e3⟩ := q_index (q := q) (M := M) (by omega) h h2 h4
    have ek : quK q M = k := by unfold quK; rw [e1]
    have ei : quI q M = i := by unfold quI; rw [ek, e2]; rfl
    rw [ek, ei]
    exact ⟨e1, e2, e3⟩
  rw [← hQP]
  clear hQP
  generalize hn : nanB q = nq at *
  generalize hlt : (fo q 0 == some .lt) = lt at *
  generalize hgt : (fo q 4607182418800017408 == some .gt) = gt at *
  clear hn hlt hgt
  cases nq with
  | true =>
    have HX := hidJ (HP1.out rfl)
    clear HP1 HP2 HP3 HP4 HK HC HS g1 g2
    go_enter Try.func7, Try.ntmps7
    go_wp2_with fail
    refine HN.out.mono ?_
    rintro e w1 ⟨rfl, rfl⟩
    clear HN
    go_wp2
    go_ret
    exact ⟨_, rfl, HX.out, gb_refl _ _⟩
  | false =>
    cases lt with
    | true =>
      have HX := hidJ (HP2.out rfl rfl)
      have HI := hidJ (inf_neg w)
      clear HP1 HP2 HP3 HP4 HK HC HS g2
      go_enter Try.func7, Try.ntmps7
      go_wp2_with fail
      refine HN.out.mono ?_
      rintro e w1 ⟨rfl, rfl⟩
      clear HN
      go_wp2_with fail
      refine HI.out.mono ?_
      rintro e w1 ⟨rfl, rfl⟩
      clear HI
      go_wp2
      go_ret
      exact ⟨_, rfl, HX.out, gb_refl _ _⟩
    | false =>
      cases gt with
      | true =>
        have HX := hidJ (HP3.out rfl rfl rfl)
        have HI := hidJ (inf_pos w)
        clear HP1 HP2 HP3 HP4 HK HC HS
        go_enter Try.func7, Try.ntmps7
        go_wp2_with fail
        refine HN.out.mono ?_
        rintro e w1 ⟨rfl, rfl⟩
        clear HN
        go_wp2_with fail
        refine HI.out.mono ?_
        rintro e w1 ⟨rfl, rfl⟩
        clear HI
        go_wp2
        go_ret
        exact ⟨_, rfl, HX.out, gb_refl _ _⟩
      | false =>
        obtain ⟨k1, k2, k3⟩ := HK.out rfl rfl rfl
        have HX : Hid (∀ (s : List Nat) x, s.Perm l → s.Pairwise leV → x = fopC .add (fopC .mul (cz (s.getD (quI q M) 0)) (fopC .sub (cz 4607182418800017408) (quW q M))) (fopC .mul (cz (s.getD (min (quI q M + 1) M) 0)) (quW q M)) → QP x) := fun s x a1 a2 a3 => HP4.out rfl rfl rfl s x a1 a2 (by
          have e : s.length - 1 = M := by rw [a1.length_eq, HM.out]; rfl
          unfold quaC
          rw [e]
          exact a3)
        have HW : Hid (quW q M = fopC .sub (cz (quK q M)) (cz (floatOfInt .f64 ((quI q M : Nat) : Int)))) := rfl
        clear HP1 HP2 HP3 HP4 HK
        generalize quK q M = k at *
        generalize quI q M = i at *
        generalize quW q M = qw at *
        have o1 : ∀ W, (binOp .mul 22 (.float .f64 q) (.float .f64 (floatOfInt .f64 (M : Int)))).run Try.prog W = .ok (.float .f64 k) W := fun W => run_float_arith W .mul 22 .f64 q _ k k1
        have oc : ∀ W, (convert 22 3 (.float .f64 k)).run Try.prog W = .ok (.int .i64 (i : Int)) W := fun W => run_convert_float_int W 22 3 .f64 .i64 k i (by kernel_rfl) Try.underlying3 k2
        have hwm : IntKind.i64.wrap (((M : Int) + 1) - 1) = (M : Int) := by rw [IntKind.wrap_i64]; omega
        have hwi : IntKind.i64.wrap ((i : Int) + 1) = (i : Int) + 1 := by rw [IntKind.wrap_i64]; omega
        obtain ⟨jn, hjn⟩ : ∃ jn, min (i + 1) M = jn := ⟨_, rfl⟩
        rw [hjn] at HX
        have hjM : jn ≤ M := by omega
        have hj1 : jn < M + 1 := by omega
        have hi1 : i < M + 1 := by omega
        have HT : Hid (∀ W x, Calls Try.prog 19 #[.float .f64 x] W fun e w' => e = .returned (.float .f64 (toldN x)) ∧ w' = W) := fun W x => told_any W x
        clear k1 k2
        go_enter Try.func7, Try.ntmps7
        go_wp2_with fail
        refine HN.out.mono ?_
        rintro e w1 ⟨rfl, rfl⟩
        clear HN
        go_wp2_with fail
        refine HC.out.mono ?_
        rintro e w1 ⟨v, rfl, q1, q2⟩
        obtain ⟨g, c2, rfl, hc1, hc2, hS⟩ := HS.out w1 v q1 q2
        have HS1 := hidJ hS
        clear HC HS q1 q2 hS
        unfold maxLen at hc2
        go_wp2_with fail
        refine HS1.out.mono ?_
        rintro e w2 ⟨rfl, q3⟩
        clear HS1
        obtain ⟨d, d1, d2, d3, d4⟩ := q3.out
        have ci := d3 i (by omega)
        have cj := d3 jn (by omega)
        have HD := hidJ (And.intro d1 (And.intro d2 d4))
        clear d1 d2 d3 d4 q3
        obtain ⟨wt, w4, hq4, hd4, hg4, hc4, hs4⟩ := fop_at w2 (op := .sub) (.inr (.inl rfl)) k (floatOfInt .f64 (i : Int))
        have hsub4 := hq4 22
        have ci4 := (hc4 ⟨g, i, none⟩).trans ci
        have cj4 := (hc4 ⟨g, jn, none⟩).trans cj
        have HG4 := hidJ (gb_none HD.out.2.2 hg4)
        have HCz : Hid (cz wt = qw) := hd4.trans HW.out.symm
        clear hq4 hd4 hg4 hc4 hs4 HW
        have hjz : min ((i : Int) + 1) (M : Int) = (jn : Int) := by omega
        have HSw : Hid (∀ W, w4.grownBy W none → W.cell? ⟨g, i, none⟩ = some (.float .f64 (d.getD i 0)) ∧ W.cell? ⟨g, jn, none⟩ = some (.float .f64 (d.getD jn 0))) := fun W hW => ⟨World.grownBy.cell hW ci4 (by simp), World.grownBy.cell hW cj4 (by simp)⟩
        have HTw : Hid (∀ W x, w4.grownBy W none → Calls Try.prog 19 #[.float .f64 x] W fun e w' => ∃ v, e = .returned (.float .f64 v) ∧ Hid (w4.grownBy w' none ∧ v = cz x)) := fun W x hW => (HT.out W x).mono (by
          rintro e w' ⟨rfl, rfl⟩
          exact ⟨_, rfl, hW, rfl⟩)
        obtain ⟨QR, hQR⟩ : ∃ QR, fopC .add (fopC .mul (cz (d.getD i 0)) (fopC .sub (cz 4607182418800017408) qw)) (fopC .mul (cz (d.getD jn 0)) qw) = QR := ⟨_, rfl⟩
        have HQe : Hid (fopC .add (fopC .mul (cz (d.getD i 0)) (fopC .sub (cz 4607182418800017408) (cz wt))) (fopC .mul (cz (d.getD jn 0)) (cz wt)) = QR) := by
          rw [HCz.out]
          exact hQR
        have HQz : Hid (∀ z, z = QR → QP z) := fun z hz => HX.out d z HD.out.1 HD.out.2.1 (hz.trans hQR.symm)
        clear hQR HX HD HCz ci cj ci4 cj4 HT
        generalize d.getD i 0 = si at *
        generalize d.getD jn 0 = sj at *
        have hsub : ∀ W a b, (binOp .sub 22 (.float .f64 a) (.float .f64 b)).run Try.prog W = .ok (.float .f64 (fres W .sub a b)) (fwor W .sub a b) := fun W a b => run_fop W (.inr (.inl rfl)) _ _ _
        have hmul : ∀ W a b, (binOp .mul 22 (.float .f64 a) (.float .f64 b)).run Try.prog W = .ok (.float .f64 (fres W .mul a b)) (fwor W .mul a b) := fun W a b => run_fop W (.inr (.inr (.inl rfl))) _ _ _
        have hadd : ∀ W a b, (binOp .add 22 (.float .f64 a) (.float .f64 b)).run Try.prog W = .ok (.float .f64 (fres W .add a b)) (fwor W .add a b) := fun W a b => run_fop W (.inl rfl) _ _ _
        have HH := hidJ (And.intro hsub (And.intro hmul hadd))
        clear hsub hmul hadd
        go_wp2
        obtain ⟨hsub, hmul, hadd⟩ := HH.out
        have HT := hidJ HTw.out
        clear HTw o1 oc hsub4 HH
        have hi1z : (i : Int) < (M : Int) + 1 := by omega
        have hj1z : (jn : Int) < (M : Int) + 1 := by omega
        refine wp_region_held_drew (S := (fun w' => w'.cell? ⟨g, i, none⟩ = some (.float .f64 si) ∧ w'.cell? ⟨g, jn, none⟩ = some (.float .f64 sj))) (by kernel_rfl) (HSw.out _ (gb_drew _ _)) (fun _ => ?_)
        refine wpAnyH_take (i := 0) (oi := { dst := some 49, op := Go.Op.move (Go.Operand.tmp 5), type := 23, pos := "quantile.go:26", after := #[], guard := none }) (v := ?v29k) rfl (by kernel_rfl) (by kernel_rfl) (by kernel_rfl) (fun _ _ _ h => h) (Or.inl ⟨by rfl, ?y29k⟩) (HSw.out _ (gb_drew _ _)) ?r29k
        case y29k => intro wq hSw; obtain ⟨s1, s2⟩ := hSw; go_simp; try with_reducible rfl
        case' r29k => skip
        try simp only [Act.put, List.setIfInBounds_toArray, List.set_cons_zero, List.set_cons_succ]
        refine wpAnyH_take (i := 1) (oi := { dst := some 50, op := Go.Op.move (Go.Operand.tmp 7), type := 3, pos := "quantile.go:26", after := #[], guard := none }) (v := ?v30k) rfl (by kernel_rfl) (by kernel_rfl) (by kernel_rfl) (fun _ _ _ h => h) (Or.inl ⟨by rfl, ?y30k⟩) (HSw.out _ (gb_drew _ _)) ?r30k
        case y30k => intro wq hSw; obtain ⟨s1, s2⟩ := hSw; go_simp; try with_reducible rfl
        case' r30k => skip
        try simp only [Act.put, List.setIfInBounds_toArray, List.set_cons_zero, List.set_cons_succ]
        refine wpAnyH_take (i := 2) (oi := { dst := some 51, op := Go.Op.indexAddr 23 (Go.Operand.tmp 49) (Go.Operand.tmp 50), type := 0, pos := "quantile.go:26", after := #[{ on := 0, ground := Go.Ground.data }, { on := 1, ground := Go.Ground.data }], guard := none }) (v := ?v31k) rfl (by kernel_rfl) (by kernel_rfl) (by kernel_rfl) (fun _ _ _ h => h) (Or.inl ⟨by rfl, ?y31k⟩) (HSw.out _ (gb_drew _ _)) ?r31k
        case y31k => intro wq hSw; obtain ⟨s1, s2⟩ := hSw; go_simp; try with_reducible rfl
        case' r31k => skip
        try simp only [Act.put, List.setIfInBounds_toArray, List.set_cons_zero, List.set_cons_succ]
        refine wpAnyH_take (i := 3) (oi := { dst := some 52, op := Go.Op.load 22 (Go.Operand.tmp 51), type := 22, pos := "quantile.go:26", after := #[{ on := 2, ground := Go.Ground.data }], guard := none }) (v := ?v32k) rfl (by kernel_rfl) (by kernel_rfl) (by kernel_rfl) (fun _ _ _ h => h) (Or.inl ⟨by rfl, ?y32k⟩) (HSw.out _ (gb_drew _ _)) ?r32k
        case y32k => intro wq hSw; obtain ⟨s1, s2⟩ := hSw; go_simp; try with_reducible rfl
        case' r32k => skip
        try simp only [Act.put, List.setIfInBounds_toArray, List.set_cons_zero, List.set_cons_succ]
        refine wpAnyH_take (i := 4) (oi := { dst := some 53, op := Go.Op.move (Go.Operand.tmp 9), type := 22, pos := "quantile.go:26", after := #[], guard := none }) (v := ?v33k) rfl (by kernel_rfl) (by kernel_rfl) (by kernel_rfl) (fun _ _ _ h => h) (Or.inl ⟨by rfl, ?y33k⟩) (HSw.out _ (gb_drew _ _)) ?r33k
        case y33k => intro wq hSw; obtain ⟨s1, s2⟩ := hSw; go_simp; try with_reducible rfl
        case' r33k => skip
        try simp only [Act.put, List.setIfInBounds_toArray, List.set_cons_zero, List.set_cons_succ]
        refine wpAnyH_take (i := 7) (oi := { dst := some 56, op := Go.Op.move (Go.Operand.tmp 5), type := 23, pos := "quantile.go:26", after := #[], guard := none }) (v := ?v34k) rfl (by kernel_rfl) (by kernel_rfl) (by kernel_rfl) (fun _ _ _ h => h) (Or.inl ⟨by rfl, ?y34k⟩) (HSw.out _ (gb_drew _ _)) ?r34k
        case y34k => intro wq hSw; obtain ⟨s1, s2⟩ := hSw; go_simp; try with_reducible rfl
        case' r34k => skip
        try simp only [Act.put, List.setIfInBounds_toArray, List.set_cons_zero, List.set_cons_succ]
        refine wpAnyH_take (i := 8) (oi := { dst := some 57, op := Go.Op.move (Go.Operand.tmp 8), type := 3, pos := "quantile.go:26", after := #[], guard := none }) (v := ?v35k) rfl (by kernel_rfl) (by kernel_rfl) (by kernel_rfl) (fun _ _ _ h => h) (Or.inl ⟨by rfl, ?y35k⟩) (HSw.out _ (gb_drew _ _)) ?r35k
        case y35k => intro wq hSw; obtain ⟨s1, s2⟩ := hSw; go_simp; try with_reducible rfl
        case' r35k => skip
        try simp only [Act.put, List.setIfInBounds_toArray, List.set_cons_zero, List.set_cons_succ]
        refine wpAnyH_take (i := 9) (oi := { dst := some 58, op := Go.Op.indexAddr 23 (Go.Operand.tmp 56) (Go.Operand.tmp 57), type := 0, pos := "quantile.go:26", after := #[{ on := 7, ground := Go.Ground.data }, { on := 8, ground := Go.Ground.data }], guard := none }) (v := ?v36k) rfl (by kernel_rfl) (by kernel_rfl) (by kernel_rfl) (fun _ _ _ h => h) (Or.inl ⟨by rfl, ?y36k⟩) (HSw.out _ (gb_drew _ _)) ?r36k
        case y36k => intro wq hSw; obtain ⟨s1, s2⟩ := hSw; go_simp; try with_reducible rfl
        case' r36k => skip
        try simp only [Act.put, List.setIfInBounds_toArray, List.set_cons_zero, List.set_cons_succ]
        refine wpAnyH_take (i := 10) (oi := { dst := some 59, op := Go.Op.load 22 (Go.Operand.tmp 58), type := 22, pos := "quantile.go:26", after := #[{ on := 9, ground := Go.Ground.data }], guard := none }) (v := ?v37k) rfl (by kernel_rfl) (by kernel_rfl) (by kernel_rfl) (fun _ _ _ h => h) (Or.inl ⟨by rfl, ?y37k⟩) (HSw.out _ (gb_drew _ _)) ?r37k
        case y37k => intro wq hSw; obtain ⟨s1, s2⟩ := hSw; go_simp; try with_reducible rfl
        case' r37k => skip
        try simp only [Act.put, List.setIfInBounds_toArray, List.set_cons_zero, List.set_cons_succ]
        refine wpAnyH_take (i := 11) (oi := { dst := some 60, op := Go.Op.move (Go.Operand.tmp 9), type := 22, pos := "quantile.go:26", after := #[], guard := none }) (v := ?v38k) rfl (by kernel_rfl) (by kernel_rfl) (by kernel_rfl) (fun _ _ _ h => h) (Or.inl ⟨by rfl, ?y38k⟩) (HSw.out _ (gb_drew _ _)) ?r38k
        case y38k => intro wq hSw; obtain ⟨s1, s2⟩ := hSw; go_simp; try with_reducible rfl
        case' r38k => skip
        try simp only [Act.put, List.setIfInBounds_toArray, List.set_cons_zero, List.set_cons_succ]
        refine wpAnyH_ready (rs := [5, 12]) (by kernel_rfl) (by simp) ?_
        refine AllReadyH.cons (o := { dst := some 54, op := Go.Op.binOp Go.BinOp.sub 22 (Go.Operand.const (Go.Value.float Go.FloatKind.f64 4607182418800017408)) (Go.Operand.tmp 53) 22, type := 22, pos := "quantile.go:26", after := #[{ on := 4, ground := Go.Ground.data }], guard := none }) rfl (fun K hK => ?_) ?_
        · go_simp
          refine hK.out _ _ (HSw.out _ (gb_none (gb_drew _ _) (fwor_gb _ _ _ _))) (fun _ => ?_)
          clear hK
          try simp only [Act.put, List.setIfInBounds_toArray, List.set_cons_zero, List.set_cons_succ]
          refine wpAnyH_ready (rs := [6, 12]) (by kernel_rfl) (by simp) ?_
          refine AllReadyH.cons (o := { dst := some 55, op := Go.Op.binOp Go.BinOp.mul 22 (Go.Operand.tmp 52) (Go.Operand.tmp 54) 22, type := 22, pos := "quantile.go:26", after := #[{ on := 3, ground := Go.Ground.data }, { on := 5, ground := Go.Ground.data }], guard := none }) rfl (fun K hK => ?_) ?_
          · go_simp
            refine hK.out _ _ (HSw.out _ (gb_none (gb_none (gb_drew _ _) (fwor_gb _ _ _ _)) (fwor_gb _ _ _ _))) (fun _ => ?_)
            clear hK
            try simp only [Act.put, List.setIfInBounds_toArray, List.set_cons_zero, List.set_cons_succ]
            refine wpAnyH_ready (rs := [12]) (by kernel_rfl) (by simp) ?_
            refine AllReadyH.cons (o := { dst := some 61, op := Go.Op.binOp Go.BinOp.mul 22 (Go.Operand.tmp 59) (Go.Operand.tmp 60) 22, type := 22, pos := "quantile.go:26", after := #[{ on := 10, ground := Go.Ground.data }, { on := 11, ground := Go.Ground.data }], guard := none }) rfl (fun K hK => ?_) AllReadyH.nil
            go_simp
            refine hK.out _ _ (HSw.out _ (gb_none (gb_none (gb_none (gb_drew _ _) (fwor_gb _ _ _ _)) (fwor_gb _ _ _ _)) (fwor_gb _ _ _ _))) (fun _ => ?_)
            clear hK
            try simp only [Act.put, List.setIfInBounds_toArray, List.set_cons_zero, List.set_cons_succ]
            refine wpAnyH_ready (rs := [13]) (by kernel_rfl) (by simp) ?_
            refine AllReadyH.cons (o := { dst := some 62, op := Go.Op.binOp Go.BinOp.add 22 (Go.Operand.tmp 55) (Go.Operand.tmp 61) 22, type := 22, pos := "quantile.go:26", after := #[{ on := 6, ground := Go.Ground.data }, { on := 12, ground := Go.Ground.data }], guard := none }) rfl (fun K hK => ?_) AllReadyH.nil
            go_simp
            refine hK.out _ _ (HSw.out _ (gb_none (gb_none (gb_none (gb_none (gb_drew _ _) (fwor_gb _ _ _ _)) (fwor_gb _ _ _ _)) (fwor_gb _ _ _ _)) (fwor_gb _ _ _ _))) (fun _ => ?_)
            clear hK
            try simp only [Act.put, List.setIfInBounds_toArray, List.set_cons_zero, List.set_cons_succ]
            refine wpAnyH_ready (rs := [14]) (by kernel_rfl) (by simp) ?_
            refine AllReadyH.cons (o := { dst := some 63, op := Go.Op.call { callee := Go.Callee.value (Go.Operand.func 19), args := #[Go.Operand.tmp 62], argTypes := #[22] }, type := 22, pos := "quantile.go:26", after := #[{ on := 13, ground := Go.Ground.data }], guard := none }) rfl (fun K hK => ?_) AllReadyH.nil
            go_simp
            refine (HT.out _ _ (gb_none (gb_none (gb_none (gb_none (gb_drew _ _) (fwor_gb _ _ _ _)) (fwor_gb _ _ _ _)) (fwor_gb _ _ _ _)) (fwor_gb _ _ _ _))).mono ?_; rintro e wt15 ⟨t15, rfl, ht15⟩
            refine hK.out _ _ (HSw.out _ ht15.out.1) (fun _ => ?_)
            clear hK
            try simp only [Act.put, List.setIfInBounds_toArray, List.set_cons_zero, List.set_cons_succ]
            refine wpAnyH_ready (rs := [15]) (by kernel_rfl) (by simp) ?_
            refine AllReadyH.cons (o := { dst := some 4, op := Go.Op.assign (Go.Operand.tmp 63), type := 22, pos := "quantile.go:26", after := #[{ on := 14, ground := Go.Ground.data }, { on := 14, ground := Go.Ground.chain }, { on := 0, ground := Go.Ground.phase }, { on := 1, ground := Go.Ground.phase }, { on := 2, ground := Go.Ground.phase }, { on := 3, ground := Go.Ground.phase }, { on := 4, ground := Go.Ground.phase }, { on := 5, ground := Go.Ground.phase }, { on := 6, ground := Go.Ground.phase }, { on := 7, ground := Go.Ground.phase }, { on := 8, ground := Go.Ground.phase }, { on := 9, ground := Go.Ground.phase }, { on := 10, ground := Go.Ground.phase }, { on := 11, ground := Go.Ground.phase }, { on := 12, ground := Go.Ground.phase }, { on := 13, ground := Go.Ground.phase }, { on := 14, ground := Go.Ground.phase }], guard := none }) rfl (fun K hK => ?_) AllReadyH.nil
            go_simp
            refine hK.out _ _ (HSw.out _ ht15.out.1) (fun _ => ?_)
            clear hK
            try simp only [Act.put, List.setIfInBounds_toArray, List.set_cons_zero, List.set_cons_succ]
            refine wpAnyH_done (by kernel_rfl) ?_ _
            obtain ⟨z, hz⟩ : ∃ z, t15 = z := ⟨_, rfl⟩
            obtain ⟨W9, hW9⟩ : ∃ W9, wt15 = W9 := ⟨_, rfl⟩
            rw [hz, hW9]
            have hcz : z = QR := by rw [← hz, ht15.out.2, cz_fres _ (.inl rfl), cz_fres _ (.inr (.inr (.inl rfl))), cz_fres _ (.inr (.inr (.inl rfl))), cz_fres _ (.inr (.inl rfl))]; exact HQe.out
            have hg9 : w4.grownBy W9 none := by rw [← hW9]; exact ht15.out.1
            have HZx1 := hidJ (HQz.out z hcz)
            have HGx1 := hidJ (gb_none HG4.out hg9)
            clear hz hW9 hcz hg9
            go_wp2
            go_ret
            exact ⟨_, rfl, HZx1.out, HGx1.out⟩
          refine AllReadyH.cons (o := { dst := some 61, op := Go.Op.binOp Go.BinOp.mul 22 (Go.Operand.tmp 59) (Go.Operand.tmp 60) 22, type := 22, pos := "quantile.go:26", after := #[{ on := 10, ground := Go.Ground.data }, { on := 11, ground := Go.Ground.data }], guard := none }) rfl (fun K hK => ?_) AllReadyH.nil
          go_simp
          refine hK.out _ _ (HSw.out _ (gb_none (gb_none (gb_drew _ _) (fwor_gb _ _ _ _)) (fwor_gb _ _ _ _))) (fun _ => ?_)
          clear hK
          try simp only [Act.put, List.setIfInBounds_toArray, List.set_cons_zero, List.set_cons_succ]
          refine wpAnyH_ready (rs := [6]) (by kernel_rfl) (by simp) ?_
          refine AllReadyH.cons (o := { dst := some 55, op := Go.Op.binOp Go.BinOp.mul 22 (Go.Operand.tmp 52) (Go.Operand.tmp 54) 22, type := 22, pos := "quantile.go:26", after := #[{ on := 3, ground := Go.Ground.data }, { on := 5, ground := Go.Ground.data }], guard := none }) rfl (fun K hK => ?_) AllReadyH.nil
          go_simp
          refine hK.out _ _ (HSw.out _ (gb_none (gb_none (gb_none (gb_drew _ _) (fwor_gb _ _ _ _)) (fwor_gb _ _ _ _)) (fwor_gb _ _ _ _))) (fun _ => ?_)
          clear hK
          try simp only [Act.put, List.setIfInBounds_toArray, List.set_cons_zero, List.set_cons_succ]
          refine wpAnyH_ready (rs := [13]) (by kernel_rfl) (by simp) ?_
          refine AllReadyH.cons (o := { dst := some 62, op := Go.Op.binOp Go.BinOp.add 22 (Go.Operand.tmp 55) (Go.Operand.tmp 61) 22, type := 22, pos := "quantile.go:26", after := #[{ on := 6, ground := Go.Ground.data }, { on := 12, ground := Go.Ground.data }], guard := none }) rfl (fun K hK => ?_) AllReadyH.nil
          go_simp
          refine hK.out _ _ (HSw.out _ (gb_none (gb_none (gb_none (gb_none (gb_drew _ _) (fwor_gb _ _ _ _)) (fwor_gb _ _ _ _)) (fwor_gb _ _ _ _)) (fwor_gb _ _ _ _))) (fun _ => ?_)
          clear hK
          try simp only [Act.put, List.setIfInBounds_toArray, List.set_cons_zero, List.set_cons_succ]
          refine wpAnyH_ready (rs := [14]) (by kernel_rfl) (by simp) ?_
          refine AllReadyH.cons (o := { dst := some 63, op := Go.Op.call { callee := Go.Callee.value (Go.Operand.func 19), args := #[Go.Operand.tmp 62], argTypes := #[22] }, type := 22, pos := "quantile.go:26", after := #[{ on := 13, ground := Go.Ground.data }], guard := none }) rfl (fun K hK => ?_) AllReadyH.nil
          go_simp
          refine (HT.out _ _ (gb_none (gb_none (gb_none (gb_none (gb_drew _ _) (fwor_gb _ _ _ _)) (fwor_gb _ _ _ _)) (fwor_gb _ _ _ _)) (fwor_gb _ _ _ _))).mono ?_; rintro e wt16 ⟨t16, rfl, ht16⟩
          refine hK.out _ _ (HSw.out _ ht16.out.1) (fun _ => ?_)
          clear hK
          try simp only [Act.put, List.setIfInBounds_toArray, List.set_cons_zero, List.set_cons_succ]
          refine wpAnyH_ready (rs := [15]) (by kernel_rfl) (by simp) ?_
          refine AllReadyH.cons (o := { dst := some 4, op := Go.Op.assign (Go.Operand.tmp 63), type := 22, pos := "quantile.go:26", after := #[{ on := 14, ground := Go.Ground.data }, { on := 14, ground := Go.Ground.chain }, { on := 0, ground := Go.Ground.phase }, { on := 1, ground := Go.Ground.phase }, { on := 2, ground := Go.Ground.phase }, { on := 3, ground := Go.Ground.phase }, { on := 4, ground := Go.Ground.phase }, { on := 5, ground := Go.Ground.phase }, { on := 6, ground := Go.Ground.phase }, { on := 7, ground := Go.Ground.phase }, { on := 8, ground := Go.Ground.phase }, { on := 9, ground := Go.Ground.phase }, { on := 10, ground := Go.Ground.phase }, { on := 11, ground := Go.Ground.phase }, { on := 12, ground := Go.Ground.phase }, { on := 13, ground := Go.Ground.phase }, { on := 14, ground := Go.Ground.phase }], guard := none }) rfl (fun K hK => ?_) AllReadyH.nil
          go_simp
          refine hK.out _ _ (HSw.out _ ht16.out.1) (fun _ => ?_)
          clear hK
          try simp only [Act.put, List.setIfInBounds_toArray, List.set_cons_zero, List.set_cons_succ]
          refine wpAnyH_done (by kernel_rfl) ?_ _
          obtain ⟨z, hz⟩ : ∃ z, t16 = z := ⟨_, rfl⟩
          obtain ⟨W9, hW9⟩ : ∃ W9, wt16 = W9 := ⟨_, rfl⟩
          rw [hz, hW9]
          have hcz : z = QR := by rw [← hz, ht16.out.2, cz_fres _ (.inl rfl), cz_fres _ (.inr (.inr (.inl rfl))), cz_fres _ (.inr (.inr (.inl rfl))), cz_fres _ (.inr (.inl rfl))]; exact HQe.out
          have hg9 : w4.grownBy W9 none := by rw [← hW9]; exact ht16.out.1
          have HZx2 := hidJ (HQz.out z hcz)
          have HGx2 := hidJ (gb_none HG4.out hg9)
          clear hz hW9 hcz hg9
          go_wp2
          go_ret
          exact ⟨_, rfl, HZx2.out, HGx2.out⟩
        refine AllReadyH.cons (o := { dst := some 61, op := Go.Op.binOp Go.BinOp.mul 22 (Go.Operand.tmp 59) (Go.Operand.tmp 60) 22, type := 22, pos := "quantile.go:26", after := #[{ on := 10, ground := Go.Ground.data }, { on := 11, ground := Go.Ground.data }], guard := none }) rfl (fun K hK => ?_) AllReadyH.nil
        go_simp
        refine hK.out _ _ (HSw.out _ (gb_none (gb_drew _ _) (fwor_gb _ _ _ _))) (fun _ => ?_)
        clear hK
        try simp only [Act.put, List.setIfInBounds_toArray, List.set_cons_zero, List.set_cons_succ]
        refine wpAnyH_ready (rs := [5]) (by kernel_rfl) (by simp) ?_
        refine AllReadyH.cons (o := { dst := some 54, op := Go.Op.binOp Go.BinOp.sub 22 (Go.Operand.const (Go.Value.float Go.FloatKind.f64 4607182418800017408)) (Go.Operand.tmp 53) 22, type := 22, pos := "quantile.go:26", after := #[{ on := 4, ground := Go.Ground.data }], guard := none }) rfl (fun K hK => ?_) AllReadyH.nil
        go_simp
        refine hK.out _ _ (HSw.out _ (gb_none (gb_none (gb_drew _ _) (fwor_gb _ _ _ _)) (fwor_gb _ _ _ _))) (fun _ => ?_)
        clear hK
        try simp only [Act.put, List.setIfInBounds_toArray, List.set_cons_zero, List.set_cons_succ]
        refine wpAnyH_ready (rs := [6]) (by kernel_rfl) (by simp) ?_
        refine AllReadyH.cons (o := { dst := some 55, op := Go.Op.binOp Go.BinOp.mul 22 (Go.Operand.tmp 52) (Go.Operand.tmp 54) 22, type := 22, pos := "quantile.go:26", after := #[{ on := 3, ground := Go.Ground.data }, { on := 5, ground := Go.Ground.data }], guard := none }) rfl (fun K hK => ?_) AllReadyH.nil
        go_simp
        refine hK.out _ _ (HSw.out _ (gb_none (gb_none (gb_none (gb_drew _ _) (fwor_gb _ _ _ _)) (fwor_gb _ _ _ _)) (fwor_gb _ _ _ _))) (fun _ => ?_)
        clear hK
        try simp only [Act.put, List.setIfInBounds_toArray, List.set_cons_zero, List.set_cons_succ]
        refine wpAnyH_ready (rs := [13]) (by kernel_rfl) (by simp) ?_
        refine AllReadyH.cons (o := { dst := some 62, op := Go.Op.binOp Go.BinOp.add 22 (Go.Operand.tmp 55) (Go.Operand.tmp 61) 22, type := 22, pos := "quantile.go:26", after := #[{ on := 6, ground := Go.Ground.data }, { on := 12, ground := Go.Ground.data }], guard := none }) rfl (fun K hK => ?_) AllReadyH.nil
        go_simp
        refine hK.out _ _ (HSw.out _ (gb_none (gb_none (gb_none (gb_none (gb_drew _ _) (fwor_gb _ _ _ _)) (fwor_gb _ _ _ _)) (fwor_gb _ _ _ _)) (fwor_gb _ _ _ _))) (fun _ => ?_)
        clear hK
        try simp only [Act.put, List.setIfInBounds_toArray, List.set_cons_zero, List.set_cons_succ]
        refine wpAnyH_ready (rs := [14]) (by kernel_rfl) (by simp) ?_
        refine AllReadyH.cons (o := { dst := some 63, op := Go.Op.call { callee := Go.Callee.value (Go.Operand.func 19), args := #[Go.Operand.tmp 62], argTypes := #[22] }, type := 22, pos := "quantile.go:26", after := #[{ on := 13, ground := Go.Ground.data }], guard := none }) rfl (fun K hK => ?_) AllReadyH.nil
        go_simp
        refine (HT.out _ _ (gb_none (gb_none (gb_none (gb_none (gb_drew _ _) (fwor_gb _ _ _ _)) (fwor_gb _ _ _ _)) (fwor_gb _ _ _ _)) (fwor_gb _ _ _ _))).mono ?_; rintro e wt17 ⟨t17, rfl, ht17⟩
        refine hK.out _ _ (HSw.out _ ht17.out.1) (fun _ => ?_)
        clear hK
        try simp only [Act.put, List.setIfInBounds_toArray, List.set_cons_zero, List.set_cons_succ]
        refine wpAnyH_ready (rs := [15]) (by kernel_rfl) (by simp) ?_
        refine AllReadyH.cons (o := { dst := some 4, op := Go.Op.assign (Go.Operand.tmp 63), type := 22, pos := "quantile.go:26", after := #[{ on := 14, ground := Go.Ground.data }, { on := 14, ground := Go.Ground.chain }, { on := 0, ground := Go.Ground.phase }, { on := 1, ground := Go.Ground.phase }, { on := 2, ground := Go.Ground.phase }, { on := 3, ground := Go.Ground.phase }, { on := 4, ground := Go.Ground.phase }, { on := 5, ground := Go.Ground.phase }, { on := 6, ground := Go.Ground.phase }, { on := 7, ground := Go.Ground.phase }, { on := 8, ground := Go.Ground.phase }, { on := 9, ground := Go.Ground.phase }, { on := 10, ground := Go.Ground.phase }, { on := 11, ground := Go.Ground.phase }, { on := 12, ground := Go.Ground.phase }, { on := 13, ground := Go.Ground.phase }, { on := 14, ground := Go.Ground.phase }], guard := none }) rfl (fun K hK => ?_) AllReadyH.nil
        go_simp
        refine hK.out _ _ (HSw.out _ ht17.out.1) (fun _ => ?_)
        clear hK
        try simp only [Act.put, List.setIfInBounds_toArray, List.set_cons_zero, List.set_cons_succ]
        refine wpAnyH_done (by kernel_rfl) ?_ _
        obtain ⟨z, hz⟩ : ∃ z, t17 = z := ⟨_, rfl⟩
        obtain ⟨W9, hW9⟩ : ∃ W9, wt17 = W9 := ⟨_, rfl⟩
        rw [hz, hW9]
        have hcz : z = QR := by rw [← hz, ht17.out.2, cz_fres _ (.inl rfl), cz_fres _ (.inr (.inr (.inl rfl))), cz_fres _ (.inr (.inr (.inl rfl))), cz_fres _ (.inr (.inl rfl))]; exact HQe.out
        have hg9 : w4.grownBy W9 none := by rw [← hW9]; exact ht17.out.1
        have HZx3 := hidJ (HQz.out z hcz)
        have HGx3 := hidJ (gb_none HG4.out hg9)
        clear hz hW9 hcz hg9
        go_wp2
        go_ret
        exact ⟨_, rfl, HZx3.out, HGx3.out⟩
end Go.Proofs.Ytgpednikianneaa
