/-
  Range: what it answers; its function: what it hands out: the walks.
-/
import Derived.Test.YtkiefmhampfhoaaDoorCkR5
import Derived.Test.YtkiefmhampfhoaaDoorGI
namespace Go.Proofs.YtkiefmhampfhoaaDoor
open Go.RowKit Go.Shelf

attribute [local go_sem] Oper.semAt_some

/-- the function that Range answers -/
def rngF (Bl Bf Bt : Nat) : Value := .func (.func 71) #[] #[.pointer (some ⟨Bl, 0, none⟩), .pointer (some ⟨Bf, 0, none⟩), .pointer (some ⟨Bt, 0, none⟩)]
/-- what the function of Range has caught -/
def RngC (w w' : World) (Bl Bf Bt : Nat) (frm to : Int) (v : Value) (l : List SmpT) : Prop :=
  Boxed w' Bl 22 v ∧ Boxed w' Bf 2 (.int .i64 frm) ∧ Boxed w' Bt 2 (.int .i64 to) ∧ (w.heap.size ≤ Bl ∧ w.heap.size ≤ Bf ∧ w.heap.size ≤ Bt) ∧ w'.ownsRow w.heap.size 27 2 v l.length (smC l)

set_option maxHeartbeats 3200000 in
theorem ckRange_any (w : World) (v : Value) (b : List UInt8) (frm to : Int) (hv : Rd w v b) (hb : b.length < 281474976710656) (hT : Tk w) :
    Calls Tryd.prog 47 #[v, .int .i64 frm, .int .i64 to] w fun e w' => ((∃ l vL Bl Bf Bt, e = .returned (.tuple #[rngF Bl Bf Bt, .int .i64 0]) ∧ okL startP l ∧ b = ckB l ∧ RngC w w' Bl Bf Bt frm to vL l) ∨ (e = .returned (.tuple #[.nilFunc, .int .i64 3]) ∧ ∀ m, okL startP m → b ≠ ckB m)) ∧ w.grownBy w' none := by
  have HD : Hid (∀ W, W = (w.alloc (.cells #[.int .i64 frm] 2)).alloc (.cells #[.int .i64 to] 2) → Calls Tryd.prog 23 #[v] W fun e w' => ∃ a n c q, e = .returned (.tuple #[.slice a n c, .int .i64 q]) ∧ (q = 0 ∨ q = 3) ∧ Hid ((q = 0 → ∃ l, n = l.length ∧ okL startP l ∧ b = ckB l ∧ w'.ownsRow (w.heap.size + 2) 27 2 (.slice a n c) l.length (smC l)) ∧ (q = 3 → ∀ m, okL startP m → b ≠ ckB m) ∧ w.grownBy w' none ∧ Boxed w' w.heap.size 2 (.int .i64 frm) ∧ Boxed w' (w.heap.size + 1) 2 (.int .i64 to) ∧ w.heap.size + 2 ≤ w'.heap.size)) := by
    rintro W rfl
    have k := gb_none (alloc_gb w (.cells #[.int .i64 frm] 2)) (alloc_gb (w.alloc (.cells #[.int .i64 frm] 2)) (.cells #[.int .i64 to] 2))
    have x0 := (Boxed.new w 2 (.int .i64 frm)).alloc (.cells #[.int .i64 to] 2)
    have x1 := Boxed.new (w.alloc (.cells #[.int .i64 frm] 2)) 2 (.int .i64 to)
    simp only [World.size_alloc] at x1
    refine (decode_own _ v b (hv.keep k) hb (hT.keep k)).mono ?_
    rintro e w' ⟨⟨l, v', rfl, h1, h2, h3⟩ | ⟨rfl, h⟩, hg⟩
    · have hz := hg.size
      simp only [World.size_alloc] at h3 hz
      obtain ⟨a, c, rfl⟩ : ∃ a c, v' = .slice a l.length c := by
        rcases h3.2 with ⟨e, e2⟩ | ⟨b, cap, cur, e, -⟩
        · exact ⟨none, 0, by rw [e, e2]⟩
        · exact ⟨_, _, e⟩
      exact ⟨a, _, c, 0, rfl, .inl rfl, fun _ => ⟨l, rfl, h1, h2, h3⟩, (fun e => by cases e), gb_none k hg, x0.kept hg (by simp), x1.kept hg (by simp), by omega⟩
    · have hz := hg.size
      simp only [World.size_alloc] at hz
      exact ⟨none, 0, 0, 3, rfl, .inr rfl, (fun e => by cases e), fun _ => h, gb_none k hg, x0.kept hg (by simp), x1.kept hg (by simp), by omega⟩
  clear hv hb hT
  go_enter Tryd.func47, Tryd.ntmps47
  go_wp2_with fail
  refine (HD.out _ rfl).mono ?_
  rintro e w1 ⟨a, n, c, q, rfl, hq, H1⟩
  clear HD
  rcases hq with rfl | rfl
  · obtain ⟨l, rfl, h2, h3, h4⟩ := H1.out.1 rfl
    have H2 : Hid (okL startP l ∧ b = ckB l ∧ RngC w (w1.alloc (.cells #[.slice a l.length c] 22)) w1.heap.size w.heap.size (w.heap.size + 1) frm to (.slice a l.length c) l ∧ w.grownBy (w1.alloc (.cells #[.slice a l.length c] 22)) none) := by
      have k := alloc_gb w1 (.cells #[.slice a l.length c] 22)
      obtain ⟨-, -, p3, p4, p5, p6⟩ := H1.out
      exact ⟨h2, h3, ⟨Boxed.new w1 _ _, p4.kept k (by simp), p5.kept k (by simp), ⟨by omega, by omega, by omega⟩, rowP_mono (World.ownsRow.alloc h4 _) (by omega)⟩, gb_none p3 k⟩
    clear h2 h3 h4 H1
    go_wp2
    go_ret2
    exact ⟨.inl ⟨l, _, _, _, _, rfl, H2.out.1, H2.out.2.1, H2.out.2.2.1⟩, H2.out.2.2.2⟩
  · have H2 : Hid ((∀ m, okL startP m → b ≠ ckB m) ∧ w.grownBy (w1.alloc (.cells #[.slice a n c] 22)) none) := ⟨H1.out.2.1 rfl, gb_none H1.out.2.2.1 (alloc_gb _ _)⟩
    clear H1
    go_wp2
    go_ret2
    exact ⟨.inr ⟨rfl, H2.out.1⟩, H2.out.2⟩

set_option maxRecDepth 100000 in
set_option maxHeartbeats 3200000 in
theorem rng1_on (n : Nat) (hn1 : 2 ≤ n) (lp Bl Bf Bt : Nat) (frm to : Int) (l : List SmpT) (v : Value) (J : Nat → World → Prop) (W : World) (hl : l.length ≤ 1000)
    (hJr : ∀ k W, J k W → W.cell? ⟨Bl, 0, none⟩ = some v ∧ W.cell? ⟨Bf, 0, none⟩ = some (.int .i64 frm) ∧ W.cell? ⟨Bt, 0, none⟩ = some (.int .i64 to) ∧ RdP W v l)
    (hJa : ∀ k W C, J k W → J k (W.alloc C))
    (hS : ∀ k W, k < l.length → ¬ (frm ≤ (l.getD k smZ).1 ∧ (l.getD k smZ).1 ≤ to) → J k W → J (k + 1) W)
    (hY : ∀ k W, k < l.length → frm ≤ (l.getD k smZ).1 → (l.getD k smZ).1 ≤ to → J k W → YieldAt Fence.wide (n - 1) Tryd.prog lp #[.int .i64 (l.getD k smZ).1, .float .f64 (l.getD k smZ).2] W fun e W' => e = .returned (.bool true) ∧ J (k + 1) W')
    (h0 : J 0 W) :
    CallsIn Fence.wide n Tryd.prog 71 (#[.func (.yield lp) #[] #[]] ++ #[.pointer (some ⟨Bl, 0, none⟩), .pointer (some ⟨Bf, 0, none⟩), .pointer (some ⟨Bt, 0, none⟩)]) W fun e W' => (∃ v, e = .returned v) ∧ J l.length W' := by
  have HJ := hidJ hJr
  have HJa := hidJ hJa
  have HS := hidJ hS
  have HY := hidJ hY
  have H0 := hidJ h0
  obtain ⟨c0, c1, c2, hrd⟩ := hJr 0 W h0
  obtain ⟨a, c, rfl, hlc, hcm, -⟩ := hrd
  have hcm2 : c ≤ 9223372036854775807 := hcm
  obtain ⟨N, hN⟩ : ∃ N, l.length = N := ⟨_, rfl⟩
  have HN := hidJ hN
  rw [hN] at c0 hlc hl
  rw [hN]
  clear hJr hJa hS hY h0 hcm hN
  refine callsIn_of_wp Tryd.func71 rfl trivial ?_ rfl
  simp only [Tryd.ntmps71, List.size_toArray, List.length_cons, List.length_nil, Nat.reduceAdd, Nat.reduceSub, Array.replicate_succ, Array.replicate_zero, List.push_toArray, List.append_toArray, List.nil_append, List.cons_append]
  gi_wp2
  clear c0 c1 c2
  have hsf := store_float
  gi_loopw [9] (fun i wr => ∃ z : Nat, i = .int .i64 z ∧ z ≤ N ∧ Hid (J z wr)) (fun i _ => N - (intOf i).toNat)
  case atStart => exact ⟨0, rfl, by omega, H0.out⟩
  case round =>
    obtain ⟨z, rfl, hz, HP⟩ := hrel
    by_cases hlt : z < N
    · have hzi : (z : Int) < (N : Int) := by omega
      have hzl : z < l.length := by rw [HN.out]; exact hlt
      obtain ⟨-, -, -, hrd⟩ := HJ.out z wr HP.out
      obtain ⟨a', c', he, -, -, hc⟩ := hrd
      simp only [Value.slice.injEq] at he
      obtain ⟨rfl, -, rfl⟩ := he
      obtain ⟨b, o, rfl, x0, x1⟩ := hc z hzl
      have HYz := hidJ (HY.out z (wr.alloc (.cells #[.int .i64 (l.getD z smZ).1, .float .f64 (l.getD z smZ).2] 27)) hzl)
      have HSz := hidJ (HS.out z (wr.alloc (.cells #[.int .i64 (l.getD z smZ).1, .float .f64 (l.getD z smZ).2] 27)) hzl)
      have HPa := hidJ (HJa.out z wr (.cells #[.int .i64 (l.getD z smZ).1, .float .f64 (l.getD z smZ).2] 27) HP.out)
      obtain ⟨-, y1, y2, -⟩ := HJ.out z _ HPa.out
      have y3 := Go.heap_alloc_new wr (.cells #[.int .i64 (l.getD z smZ).1, .float .f64 (l.getD z smZ).2] 27)
      have y4 : (wr.alloc (.cells #[.int .i64 (l.getD z smZ).1, .float .f64 (l.getD z smZ).2] 27)).cell? ⟨wr.heap.size, 0, none⟩ = some (.int .i64 (l.getD z smZ).1) := by simp only [World.cell?, y3]; rfl
      have y5 : (wr.alloc (.cells #[.int .i64 (l.getD z smZ).1, .float .f64 (l.getD z smZ).2] 27)).cell? ⟨wr.heap.size, 1, none⟩ = some (.float .f64 (l.getD z smZ).2) := by simp only [World.cell?, y3]; rfl
      clear hc y3 HP
      generalize (l.getD z smZ).1 = T at *
      generalize (l.getD z smZ).2 = F at *
      have hn0 : 1 ≤ n := by omega
      by_cases hf : frm ≤ T
      · by_cases ht : T ≤ to
        · obtain ⟨fn, tmps, assign, body, hy, hR⟩ := HYz.out hf ht HPa.out
          clear HYz HSz HPa
          gi_wp2
          refine hR.mono ?_
          rintro e W3 ⟨rfl, hj3⟩
          have HJ3 := hidJ hj3
          clear hj3 hy hR
          gi_wp2
          go_roundw
          case rel => exact ⟨z + 1, by go_num, by omega, HJ3.out⟩
          case measure => simp [intOf]; omega
        · have HE := hidJ (HSz.out (fun h => ht h.2) HPa.out)
          clear HYz HSz HPa
          gi_wp2
          refine ⟨fun _ h => (by cases h), ?_⟩
          gi_wp2
          go_roundw
          case rel => exact ⟨z + 1, by go_num, by omega, HE.out⟩
          case measure => simp [intOf]; omega
      · have HE := hidJ (HSz.out (fun h => hf h.1) HPa.out)
        clear HYz HSz HPa
        gi_wp2
        refine ⟨fun _ h => (by cases h), ?_⟩
        gi_wp2
        go_roundw
        case rel => exact ⟨z + 1, by go_num, by omega, HE.out⟩
        case measure => simp [intOf]; omega
    · have hzi : ¬ (z : Int) < (N : Int) := by omega
      obtain rfl : z = N := by omega
      gi_wp2
      first
      | (refine bodyPost_ret (results_none rfl _ _ _) rfl ?_
         exact ⟨⟨_, rfl⟩, HP.out⟩)
      | (go_end0
         exact ⟨⟨_, rfl⟩, HP.out⟩)
end Go.Proofs.YtkiefmhampfhoaaDoor
