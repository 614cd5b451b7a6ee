/-
  LabelsIds: label sets have numbers, one each, none used again, whatever their hashes: the walk.
-/
import Derived.Test.YtkcgikgihbglnabGreatDoorKmG
import Derived.Test.YtkcgikgihbglnabGreatDoorMgE
namespace Go.Proofs.YtkcgikgihbglnabGreatDoor
open Go.RowKit

/-- calls of a numbering among the arguments -/
abbrev LopT := Int × List LbT × Int
def lopZ : LopT := (0, [], 0)
def LopsIn (w : World) (v : Value) (os : List LopT) : Prop :=
  ∃ a c, v = .slice a os.length c ∧ os.length ≤ c ∧ os.length ≤ 4398046511104 ∧ ∀ j, j < os.length → ∃ b o u, a = some ⟨b, o, none⟩ ∧ w.cell? ⟨b, o + j * 3, none⟩ = some (.int .i64 (os.getD j lopZ).1) ∧ w.cell? ⟨b, o + j * 3 + 1, none⟩ = some u ∧ w.cell? ⟨b, o + j * 3 + 2, none⟩ = some (.int .i64 (os.getD j lopZ).2.2) ∧
    RdL w u (os.getD j lopZ).2.1 ∧ LbIn (os.getD j lopZ).2.1 ∧ (os.getD j lopZ).2.1.length ≤ 4398046511104 ∧ -9223372036854775808 ≤ (os.getD j lopZ).2.2 ∧ (os.getD j lopZ).2.2 ≤ 9223372036854775807

theorem step_any (w0 w : World) (gx gr last : Nat) (u : Value) (k n : Int) (ls : List LbT) (S T : Nat → Prop) (rs qs : List IdR) (h : Duo w0 w S T gx gr last rs qs) (hu : RdL w0 u ls) (hl : LbIn ls) (hlen : ls.length ≤ 4398046511104) (hT : U8S w0) (hla : last < 1000000000000000000) (hn : -9223372036854775808 ≤ n) (hn2 : n ≤ 9223372036854775807) :
    Calls Tryz.prog 7 #[.pointer (some ⟨gx, 0, none⟩), .pointer (some ⟨gr, 0, none⟩), .agg #[.int .i64 k, u, .int .i64 n]] w fun e w' => e = .returned (.bool true) ∧ Stepped w0 w' gx gr last := by
  by_cases h0 : k = 0
  · subst h0
    exact step0_any w0 w S T gx gr last rs qs u n ls h hu hl hlen hT hla
  · by_cases h1 : k = 1
    · subst h1
      exact step1_any w0 w S T gx gr last rs qs u n ls h hu hl hlen
    · by_cases h2 : k = 2
      · subst h2
        exact step2_any w0 w S T gx gr last rs qs u n ls h hu hl hlen
      · by_cases h3 : k = 3
        · subst h3
          exact step3_any w0 w S T gx gr last rs qs u n ls h hu hlen hn hn2
        · exact stepE_any w0 w S T gx gr last rs qs u k n ls h hu hlen h0 h1 h2 h3
/-- both numberings without sets -/
theorem duo_start {w w1 : World} {gx : Nat} (h1 : PrjOK w1 (fun k => w.heap.size ≤ k ∧ k < w1.heap.size) gx [] 0) (hg : w.grownBy w1 none) :
    Duo w (w1.alloc (.cells #[.slice none 0 0, .int .i64 0] 28)) (fun k => w.heap.size ≤ k ∧ k < w1.heap.size) (fun k => k = w1.heap.size) gx w1.heap.size 0 [] [] := by
  obtain ⟨gs, gh, Ds, Dh, hv, hp⟩ := h1
  have hk := World.grownBy_alloc w1 (.cells #[.slice none 0 0, .int .i64 0] 28) none
  have z := hg.size
  refine ⟨gb_none hg hk, ⟨gs, gh, Ds, Dh, hv, hp.keep hk⟩, ⟨.slice none 0 0, ?_⟩, rfl, (fun r hr => absurd hr (by simp)), (fun k hk e => ?_), (fun k hk => ?_), (fun k hk => ?_)⟩
  · exact ⟨alloc_atI w1 _, World.ownsRow_nil _ _ _ _, rfl, (fun k hk => by simp [Value.ownBlock] at hk), (fun r hr => absurd hr (by simp)), List.Pairwise.nil, (fun r hr => absurd hr (by simp)), by simp⟩
  · have := hk.2
    omega
  · exact ⟨hk.1, by have := hk.2; simp; omega⟩
  · have e : k = w1.heap.size := hk
    exact ⟨by omega, by simp; omega⟩

set_option maxRecDepth 8000 in
set_option maxHeartbeats 6400000 in
theorem lbIds_walk (w : World) (v : Value) (os : List LopT) (hv : LopsIn w v os) (hT : U8S w) :
    Calls Tryz.prog 3 #[v] w fun e w' => e = .returned (.bool true) ∧ Below w.heap.size w w' := by
  have HT := hidJ hT
  obtain ⟨a, c, rfl, hc1, hc2, hc3⟩ := hv
  have HC := hidJ hc3
  have HN := hidJ (newIds_any w)
  clear hT hc3
  generalize hNl : os.length = N at *
  have HNl := hidJ hNl
  clear hNl
  go_enter Tryz.func3, Tryz.ntmps3
  go_wp2_with fail
  refine HN.out.mono ?_
  rintro e w1 ⟨gx, rfl, hp1, hg1⟩
  have HD0 := hidJ (duo_start hp1 hg1)
  clear hp1 hg1 HN
  go_wp2
  generalize w1.alloc (.cells #[.slice none 0 0, .int .i64 0] 28) = w2 at *
  generalize w1.heap.size = gr at *
  go_loopw [14] (fun i wr => ∃ z : Nat, z ≤ N ∧ i = .int .i64 z ∧ Hid (∃ S T last rs qs, Duo w wr S T gx gr last rs qs ∧ last ≤ z)) (fun i _ => N - (intOf i).toNat)
  case atStart => exact ⟨0, by omega, rfl, _, _, _, _, _, HD0.out, Nat.le_refl _⟩
  case round =>
    obtain ⟨z, hzN, rfl, hr⟩ := hrel
    obtain ⟨S, T, last, rs, qs, hD, hlz⟩ := hr.out
    have HD := hidJ hD
    clear hr
    by_cases hzl : z < N
    · have hzi : (z : Int) < (N : Int) := by omega
      obtain ⟨b, o, u, rfl, c0, c1, c2, c3, c4, c5, c6, c7⟩ := HC.out z hzl
      have k0 : wr.cell? ⟨b, o + z * 3, none⟩ = some (.int .i64 (os.getD z lopZ).1) := (World.cell?_of_block (hD.gb.block b (block_lt c0) (by simp))).trans c0
      have k1 : wr.cell? ⟨b, o + z * 3 + 1, none⟩ = some u := (World.cell?_of_block (hD.gb.block b (block_lt c0) (by simp))).trans c1
      have k2 : wr.cell? ⟨b, o + z * 3 + 2, none⟩ = some (.int .i64 (os.getD z lopZ).2.2) := (World.cell?_of_block (hD.gb.block b (block_lt c0) (by simp))).trans c2
      have HS : Hid (∀ W, wr.grownBy W none → Calls Tryz.prog 7 #[.pointer (some ⟨gx, 0, none⟩), .pointer (some ⟨gr, 0, none⟩), .agg #[.int .i64 (os.getD z lopZ).1, u, .int .i64 (os.getD z lopZ).2.2]] W fun e w' => e = .returned (.bool true) ∧ Stepped w w' gx gr last) := fun W hW =>
        step_any w W gx gr last u _ _ _ S T rs qs (HD.out.keep hW) c3 c4 c5 HT.out (by omega) c6 c7
      obtain ⟨ua, uc, hua⟩ : ∃ a c, u = .slice a (os.getD z lopZ).2.1.length c := by obtain ⟨a, c, h, _⟩ := c3; exact ⟨a, c, h⟩
      subst hua
      clear c0 c1 c2 c3 c4 c5 c6 c7 hD HD0
      generalize (os.getD z lopZ).1 = kk at *
      generalize (os.getD z lopZ).2.2 = nn at *
      generalize (os.getD z lopZ).2.1.length = nl at *
      go_wp2_with fail
      refine (HS.out _ (World.grownBy_alloc _ _ none)).mono ?_
      rintro e w3 ⟨rfl, S', T', last', rs', qs', hD', hl'⟩
      have HD' : Hid (∃ S T last rs qs, Duo w w3 S T gx gr last rs qs ∧ last ≤ z + 1) := ⟨S', T', last', rs', qs', hD', by omega⟩
      clear hD' hl' HS k0 k1 k2
      go_wp2
      go_roundw
      case rel => exact ⟨z + 1, by omega, by simp, HD'⟩
      case measure => simp [intOf]; omega
    · have hzi : ¬ (z : Int) < (N : Int) := by omega
      have HTd : Hid (∀ W, wr.grownBy W none → Calls Tryz.prog 8 #[.pointer (some ⟨gx, 0, none⟩), .pointer (some ⟨gr, 0, none⟩)] W fun e w' => e = .returned (.bool true) ∧ wr.grownBy w' none) := fun W hW => by
        have hk := HD.out.keep hW
        obtain ⟨v, hr⟩ := hk.ref
        exact (toldB_any W S T gx gr last last v rs qs hk.prj hr hk.agr hk.few).mono fun e w' ⟨q1, q2⟩ => ⟨q1, gb_none hW q2⟩
      have HAw : Hid (∀ W, wr.grownBy W none → Calls Tryz.prog 9 #[] W fun e w' => e = .returned (.bool true) ∧ Below w.heap.size w w') := fun W hW =>
        (awakeL_any W (HT.out.keep (gb_none HD.out.gb hW))).mono fun e w' ⟨q1, q2⟩ => ⟨q1, gb_below (gb_none (gb_none HD.out.gb hW) q2)⟩
      clear hD HD0 HC HD HT
      go_wp2_with fail
      refine (HTd.out _ (gb_refl _ _)).mono ?_
      rintro e w3 ⟨rfl, hg3⟩
      have H3 := hidJ hg3
      clear hg3
      go_wp2_with fail
      refine (HTd.out _ H3.out).mono ?_
      rintro e w4 ⟨rfl, hg4⟩
      have H4 := hidJ hg4
      clear hg4 HTd
      go_wp2_with fail
      refine (HAw.out _ H4.out).mono ?_
      rintro e w5 ⟨rfl, hB5⟩
      have H5 := hidJ hB5
      clear hB5 HAw
      go_wp2
      go_ret
      exact ⟨rfl, H5.out⟩
end Go.Proofs.YtkcgikgihbglnabGreatDoor
