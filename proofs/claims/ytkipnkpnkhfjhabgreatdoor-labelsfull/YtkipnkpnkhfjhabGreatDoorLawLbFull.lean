/-
  LabelsFull: a numbering of MaxSeries sets takes no more, but those that are there: the walk.
-/
import Derived.Test.YtkipnkpnkhfjhabGreatDoorFmA
import Derived.Test.YtkipnkpnkhfjhabGreatDoorMgE
namespace Go.Proofs.YtkipnkpnkhfjhabGreatDoor
open Go.RowKit

theorem wrapI {x : Int} (h1 : -9223372036854775808 ≤ x) (h2 : x ≤ 9223372036854775807) : IntKind.i64.wrap x = x := by
  simp [IntKind.wrap, IntKind.signed, IntKind.bits]
  omega
theorem lit2n (w : World) (x y : Value) : RdC (w.alloc (.cells #[x, y] 41)) (some ⟨w.heap.size, 0, none⟩) [x, y] := fun j v hj => lit2 w x y j v hj
/-- the project's numbering has gone ahead of the document's -/
def PAhead (w0 W : World) (S T : Nat → Prop) (gx gr last : Nat) (rs qs rs' : List IdR) (last' : Nat) : Prop := ∃ W0, Duo w0 W0 S T gx gr last rs qs ∧ PrjOK W (Gr S W0 W) gx rs' last' ∧ Ch W0 W S
theorem PAhead.keep {w0 W W1 : World} {S T : Nat → Prop} {gx gr last last' : Nat} {rs qs rs' : List IdR} (h : PAhead w0 W S T gx gr last rs qs rs' last') (hg : W.grownBy W1 none) : PAhead w0 W1 S T gx gr last rs qs rs' last' := by
  obtain ⟨W0, h1, ⟨gs, gh, Ds, Dh, hv, h2⟩, h3⟩ := h
  have := hg.size
  refine ⟨W0, h1, ⟨gs, gh, Ds, Dh, hv, (h2.keep hg).mono (fun k _ hk => ?_)⟩, h3.trans (Ch.of_gb (S := S) hg (fun k hk => by cases hk)) (fun _ _ e => e)⟩
  rcases hk with hk | hk
  · exact .inl hk
  · exact .inr ⟨hk.1, by omega⟩
theorem PAhead.ref {w0 W : World} {S T : Nat → Prop} {gx gr last last' : Nat} {rs qs rs' : List IdR} (h : PAhead w0 W S T gx gr last rs qs rs' last') : ∃ v, RefI W T gr v qs last := by
  obtain ⟨W0, h1, _, h3⟩ := h
  exact h1.refAt h3
theorem PAhead.gb {w0 W : World} {S T : Nat → Prop} {gx gr last last' : Nat} {rs qs rs' : List IdR} (h : PAhead w0 W S T gx gr last rs qs rs' last') : w0.grownBy W none := by
  obtain ⟨W0, h1, _, h3⟩ := h
  exact gb_ch h1.gb h3 (fun k hk => (h1.inS k hk).1)
theorem PAhead.two {w0 W w2 : World} {S T : Nat → Prop} {gx gr last last' : Nat} {rs qs rs' qs' : List IdR} (h : PAhead w0 W S T gx gr last rs qs rs' last') (hr : ∃ v', RefI w2 (Gr T W w2) gr v' qs' last') (hc : Ch W w2 T) (ha : Agr rs' qs') (hf : Few rs') : ∃ S' T', Duo w0 w2 S' T' gx gr last' rs' qs' := by
  obtain ⟨W0, h1, h2, h3⟩ := h
  exact ⟨_, _, h1.two h2 h3 hr hc ha hf⟩
/-- both numberings, after some calls -/
def DuoE (w0 W : World) (gx gr : Nat) : Prop := ∃ S T last rs qs, Duo w0 W S T gx gr last rs qs ∧ last ≤ 2000
theorem DuoE.keep {w0 W W1 : World} {gx gr : Nat} (h : DuoE w0 W gx gr) (hg : W.grownBy W1 none) : DuoE w0 W1 gx gr := by
  obtain ⟨S, T, last, rs, qs, h1, h2⟩ := h
  exact ⟨S, T, last, rs, qs, h1.keep hg, h2⟩
theorem DuoE.gb {w0 W : World} {gx gr : Nat} (h : DuoE w0 W gx gr) : w0.grownBy W none := by
  obtain ⟨S, T, last, rs, qs, h1, h2⟩ := h
  exact h1.gb
/-- Put of the project's, then of the document's -/
theorem put_prj {w0 W : World} {S T : Nat → Prop} {gx gr last : Nat} {rs qs : List IdR} {u : Value} {ls : List LbT} (h : Duo w0 W S T gx gr last rs qs) (hu : RdL W u ls) (hud : rs.length < 1000 → ∀ k, u.ownBlock = some k → ¬ S k) (hl : LbIn ls) (hT : U8S w0) (hla : last ≤ 1500) :
    Calls Tryz.prog 10 #[.pointer (some ⟨gx, 0, none⟩), u] W fun e w' => ∃ x y, e = .returned (.tuple #[.int .i64 x, .int .i64 y]) ∧ w0.grownBy w' none ∧ ∀ W1 u1, w'.grownBy W1 none → RdL W1 u1 ls → Calls Tryz.prog 12 #[.pointer (some ⟨gr, 0, none⟩), u1] W1 fun e w2 => e = .returned (.tuple #[.int .i64 x, .int .i64 y]) ∧ (∃ S' T' last' rs' qs', Duo w0 w2 S' T' gx gr last' rs' qs' ∧ last' ≤ last + 1) :=
  (prjPut_any W S gx last rs u ls h.prj hu hud hl (hT.keep h.gb) (by omega)).mono fun e w' ⟨own, q1, q2, q3⟩ => by
    refine ⟨_, _, q1, gb_ch h.gb q3 (fun k hk => (h.inS k hk).1), fun W1 u1 hg hu1 => ?_⟩
    have hA : PAhead w0 W1 S T gx gr last rs qs (putI rs last own ls).2.2.1 (putI rs last own ls).2.2.2 := PAhead.keep ⟨W, h, q2, q3⟩ hg
    obtain ⟨v, hr⟩ := hA.ref
    refine (refPut_ids W1 T gr last v u1 qs ls hr hu1 hl (by omega)).mono fun e w2 ⟨own2, p1, p2, p3⟩ => ?_
    obtain ⟨a1, a2, a3, a4⟩ := h.agr.put last own own2 ls
    have hf := h.few.put last own ls
    rw [← a4] at p2
    rw [← a1, ← a2] at p1
    obtain ⟨S', T', hd⟩ := hA.two p2 p3 a3 hf.1
    exact ⟨p1, S', T', _, _, _, hd, hf.2⟩
/-- Drop of the project's, then of the document's -/
theorem drop_prj {w0 W : World} {S T : Nat → Prop} {gx gr last : Nat} {rs qs : List IdR} {u : Value} {ls : List LbT} (h : Duo w0 W S T gx gr last rs qs) (hu : RdL W u ls) (hl : LbIn ls) :
    Calls Tryz.prog 13 #[.pointer (some ⟨gx, 0, none⟩), u] W fun e w' => ∃ x, e = .returned (.int .i64 x) ∧ w0.grownBy w' none ∧ ∀ W1 u1, w'.grownBy W1 none → RdL W1 u1 ls → Calls Tryz.prog 14 #[.pointer (some ⟨gr, 0, none⟩), u1] W1 fun e w2 => e = .returned (.int .i64 x) ∧ (∃ S' T' rs' qs', Duo w0 w2 S' T' gx gr last rs' qs') :=
  (prjDrop_any W S gx last rs u ls h.prj hu hl).mono fun e w' ⟨q1, q2, q3⟩ => by
    refine ⟨_, q1, gb_ch h.gb q3 (fun k hk => (h.inS k hk).1), fun W1 u1 hg hu1 => ?_⟩
    have hA : PAhead w0 W1 S T gx gr last rs qs (dropI rs ls).2 last := PAhead.keep ⟨W, h, q2.gr, q3⟩ hg
    obtain ⟨v, hr⟩ := hA.ref
    refine (refDrop_ids W1 T gr last v u1 qs ls hr hu1).mono fun e w2 ⟨p1, p2, p3⟩ => ?_
    obtain ⟨a1, a2⟩ := h.agr.drop ls
    rw [← a1] at p1
    obtain ⟨S', T', hd⟩ := hA.two p2 p3 a2 (h.few.drop ls)
    exact ⟨p1, S', T', _, _, hd⟩
/-- a number's label set, new -/
theorem num_new (w : World) (k : Nat) (hk : k < 1000) : Calls Tryz.prog 11 #[.int .i64 (k : Int)] w fun e w' => e = .returned (.slice (some ⟨w.heap.size, 0, none⟩) 1 1) ∧ RdL w' (.slice (some ⟨w.heap.size, 0, none⟩) 1 1) (numL k) ∧ w.grownBy w' none :=
  (numbered_any w k hk).mono fun e w' ⟨q1, q2⟩ => ⟨q1, by rw [q2]; exact (num_own w k).rd, by rw [q2]; exact World.grownBy_alloc _ _ none⟩

set_option maxRecDepth 8000 in
set_option maxHeartbeats 12800000 in
theorem lbFull_walk (w : World) (v : Value) (ls : List LbT) (n : Int) (hv : RdL w v ls) (hl : LbIn ls) (hlen : ls.length ≤ 4398046511104) (hT : U8S w) :
    Calls Tryz.prog 4 #[v, .int .i64 n] w fun e w' => e = .returned (.bool true) ∧ Below w.heap.size w w' := by
  have HT : Hid (U8S w ∧ RdL w v ls ∧ LbIn ls ∧ ls.length ≤ 4398046511104) := ⟨hT, hv, hl, hlen⟩
  obtain ⟨ua, uc, rfl⟩ : ∃ a c, v = .slice a ls.length c := by obtain ⟨a, c, h, _⟩ := hv; exact ⟨a, c, h⟩
  have HN := hidJ (newIds_any w)
  clear hT hv hl hlen
  go_enter Tryz.func4, Tryz.ntmps4
  go_wp2_with fail
  refine HN.out.mono ?_
  rintro e w1 ⟨gx, rfl, hp1, hg1⟩
  have HD0 := hidJ (duoF_start hp1 hg1)
  clear hp1 hg1 HN
  go_wp2
  generalize w1.alloc (.cells #[.slice none 0 0, .int .i64 0] 28) = w2 at *
  generalize w1.heap.size = gr at *
  go_loopw [7] (fun i wr => ∃ z : Nat, z ≤ 1000 ∧ i = .int .i64 z ∧ Hid (∃ S T rs qs, DuoF w wr S T gx gr z rs qs)) (fun i _ => 1000 - (intOf i).toNat)
  case atStart => exact ⟨0, by omega, rfl, _, _, _, _, HD0.out⟩
  case round =>
    obtain ⟨z, hzN, rfl, hr⟩ := hrel
    obtain ⟨S, T, rs, qs, hD⟩ := hr.out
    have HD := hidJ hD
    clear hr hD HD0
    by_cases hzl : z < 1000
    · have hzi : (z : Int) < 1000 := by omega
      have HN1 := hidJ (numbered_any wr z hzl)
      go_wp2_with fail
      refine HN1.out.mono ?_
      rintro e w3 ⟨rfl, hw3⟩
      have H3 : Hid (OwnL w3 wr.heap.size (.slice (some ⟨wr.heap.size, 0, none⟩) 1 1) (numL z) ∧ wr.grownBy w3 none) := by
        rw [hw3]
        exact ⟨num_own wr z, World.grownBy_alloc _ _ none⟩
      clear HN1 hw3
      have HDw := hidJ (HD.out.keep H3.out.2)
      have HP : Hid (Calls Tryz.prog 10 #[.pointer (some ⟨gx, 0, none⟩), .slice (some ⟨wr.heap.size, 0, none⟩) 1 1] w3 fun e w4 => ∃ own, e = .returned (.tuple #[.int .i64 ((z : Int) + 1), .int .i64 0]) ∧ PrjOK w4 (Gr S w3 w4) gx (rs ++ [⟨z + 1, own, numL z⟩]) (z + 1) ∧ Ch w3 w4 S) :=
        (prjPut_any w3 S gx z rs (.slice (some ⟨wr.heap.size, 0, none⟩) 1 1) (numL z) HDw.out.prj H3.out.1.rd (fun _ k hk e => by have e' : wr.heap.size = k := Option.some.inj hk; have := (HD.out.inS _ e).2; omega) (numL_in hzl) (HT.out.1.keep HDw.out.gb) (by omega)).mono fun e w4 ⟨own, q1, q2, q3⟩ => by
          rw [HDw.out.new hzl own] at q1 q2
          exact ⟨own, by rw [q1]; simp, q2, q3⟩
      go_wp2_with fail
      refine HP.out.mono ?_
      rintro e w4 ⟨own, rfl, hp4, hc4⟩
      obtain ⟨v0, hr4⟩ := HDw.out.refAt hc4
      have H4 : Hid (PrjOK w4 (Gr S w3 w4) gx (rs ++ [⟨z + 1, own, numL z⟩]) (z + 1) ∧ Ch w3 w4 S ∧ RefP w4 T gr v0 qs z) := ⟨hp4, hc4, hr4⟩
      clear hp4 hc4 HP
      obtain ⟨va, vc, hve, hvc⟩ : ∃ a c, v0 = .slice a qs.length c ∧ qs.length ≤ c := by
        rcases hr4.row.2 with ⟨e, hn0⟩ | ⟨g, cap, cur, e, _, _, h1, _⟩
        · exact ⟨none, 0, by rw [e, hn0], by omega⟩
        · exact ⟨_, _, e, h1⟩
      subst hve
      have hql : qs.length = z := by rw [← HD.out.agr.len]; exact HD.out.len
      have hb4 := hr4.box
      have hgl := some_lt hb4
      have HNR : Hid ((Value.slice va qs.length vc).ownBlock ≠ some gr) := hr4.ne_row
      obtain ⟨B, hB⟩ : ∃ B, B = w4.heap.size := ⟨_, rfl⟩
      have HN2 : Hid (Calls Tryz.prog 11 #[.int .i64 (z : Int)] w4.drew fun e w5 => e = .returned (.slice (some ⟨B, 0, none⟩) 1 1) ∧ w5.cell? ⟨gr, 0, none⟩ = some (.slice va qs.length vc) ∧ Hid (OwnL w5 w4.heap.size (.slice (some ⟨B, 0, none⟩) 1 1) (numL z) ∧ w4.grownBy w5 none)) :=
        (numbered_any w4.drew z hzl).mono fun e w5 ⟨q1, q2⟩ => by
          have hg5 : w4.grownBy w5 none := by rw [q2]; exact gb_none (gb_drew _ none) (World.grownBy_alloc _ _ none)
          have hx : w5.heap[gr]? = _ := (hg5.block gr hgl (by simp)).trans hb4
          refine ⟨by rw [hB]; exact q1, by simp [World.cell?, hx], ?_, hg5⟩
          rw [q2, hB]
          exact num_own w4.drew z
      have HEN : Hid (∀ w5 w6 w7 v7, OwnL w5 w4.heap.size (.slice (some ⟨B, 0, none⟩) 1 1) (numL z) → w4.grownBy w5 none → w5.grownBy w6 none → w7.ownsRow 0 41 2 v7 (qs.length + 1) (idf qs ++ [.int .i64 (IntKind.i64.wrap ((z : Int) + 1)), .slice (some ⟨B, 0, none⟩) 1 1]) → Fr w6 w7 (.slice va qs.length vc) v7 → ∃ S T rs qs, DuoF w (w7.setCell ⟨gr, 0, none⟩ v7) S T gx gr (z + 1) rs qs) := fun w5 w6 w7 v7 q1 q2 q3 q4 q5 => by
        have q4' : w7.ownsRow 0 41 2 v7 (qs.length + 1) (idf qs ++ [.int .i64 ((z + 1 : Nat) : Int), .slice (some ⟨B, 0, none⟩) 1 1]) := by
          rw [show ((z + 1 : Nat) : Int) = IntKind.i64.wrap ((z : Int) + 1) by rw [wrapI (by omega) (by omega)]; omega]
          exact q4
        obtain ⟨r1, r2⟩ := H4.out.2.2.app q2 q1 (by rw [hql]; exact hzl) q3 q4' q5
        exact ⟨_, _, _, _, HDw.out.two H4.out.1 H4.out.2.1 ⟨_, r1⟩ r2⟩
      have HRW : Hid (∀ W, w4.grownBy W none → W.ownsRow 0 41 2 (.slice va qs.length vc) qs.length (idf qs)) := fun W hW => World.ownsRow.kept hr4.row hW (by cases (Value.slice va qs.length vc).ownBlock <;> simp)
      have HBX := hidJ hb4
      have k0 : w4.cell? ⟨gr, 0, none⟩ = some (.slice va qs.length vc) := by simp [World.cell?, hb4]
      have f0 : w4.frozen? ⟨gr, 0, none⟩ = false := by simp [World.frozen?, hb4]
      have hzq : ((z : Int) + 1 == (z : Int) + 1) = true := by simp
      have hmq : qs.length ≤ 1000 := by omega
      clear hr4 hb4 hB HD HDw H3 hql
      generalize qs.length = nq at *
      generalize idf qs = iq at *
      have HZ1 : Hid (∀ w5 w7 C, w4.grownBy w5 none → ∀ v7, Fr (w5.alloc C) w7 (.slice va nq vc) v7 → w7.cell? ⟨gr, 0, none⟩ = some (.slice va nq vc) ∧ w7.frozen? ⟨gr, 0, none⟩ = false) := fun w5 w7 C hg v7 hf => by
        have hz := hg.size
        have hx : w7.heap[gr]? = _ := (hf.1.block gr (by simp; omega) (fun e => HNR.out e.symm)).trans (((World.grownBy_alloc w5 C none).block gr (by omega) (by simp)).trans ((hg.block gr hgl (by simp)).trans HBX.out))
        exact ⟨by simp [World.cell?, hx], by simp [World.frozen?, hx]⟩
      go_wp2_with fail
      go_region_law
        (first
          | (refine step_num rfl (.tmp 45) rfl (.int .i64 (z : Int)) (by simp [Act.eval, Act.put]) HN2.out ?_; rintro e w5 ⟨rfl, d5, H5⟩; have l5 := fun o => (World.cell?_of_block ((World.grownBy_alloc w5 o none).block gr (block_lt d5) (by simp))).trans d5; refine ⟨_, rfl, ?_⟩)
          | (refine step_appI rfl (.tmp 42) (.tmp 48) rfl (.slice va nq vc) nq iq ⟨w5.heap.size, 0, none⟩ [.int .i64 (IntKind.i64.wrap ((z : Int) + 1)), .slice (some ⟨B, 0, none⟩) 1 1] (by simp [Act.eval]) (by simp [Act.eval]) (HRW.out _ (gb_none H5.out.2 (World.grownBy_alloc _ _ none))) rfl (lit2n _ _ _) (by intro u hu; simp only [List.mem_cons, List.not_mem_nil, or_false] at hu; rcases hu with rfl | rfl <;> rfl) hmq ?_; intro a7 n7 c7 w7 ho7 hf7; have e7 := HZ1.out _ _ _ H5.out.2 _ hf7; have d7 := e7.1; have g7 := e7.2; have H7 := hidJ (HEN.out _ _ _ _ H5.out.1 H5.out.2 (World.grownBy_alloc _ _ none) ho7 hf7); clear e7 ho7 hf7))
      all_goals (try go_wp2)
      all_goals go_roundw
      all_goals first
        | exact ⟨z + 1, by omega, by simp, H7⟩
        | (simp [intOf]; omega)
    · obtain rfl : z = 1000 := by omega
      have hzi : ¬ ((1000 : Nat) : Int) < 1000 := by omega
      have hD1 : Duo w (wr.setCell ⟨gr, 1, none⟩ (.int .i64 1000)) S T gx gr 1000 rs qs := HD.out.fin
      have hrl : rs.length = 1000 := HD.out.len
      have hbx : ∃ v0, wr.heap[gr]? = some (.cells #[v0, .int .i64 0] 28) := by
        obtain ⟨v0, hr0⟩ := HD.out.ref
        exact ⟨v0, hr0.box⟩
      obtain ⟨v0, hb⟩ := hbx
      have k1 : wr.cell? ⟨gr, 1, none⟩ = some (.int .i64 0) := by simp [World.cell?, hb]
      have f1 : wr.frozen? ⟨gr, 1, none⟩ = false := by simp [World.frozen?, hb]
      have HP := hidJ (put_prj hD1 (HT.out.2.1.keep hD1.gb) (fun h => by omega) HT.out.2.2.1 HT.out.1 (by omega))
      have HTi : Hid (U8S w ∧ ∀ W, w.grownBy W none → RdL W (.slice ua ls.length uc) ls) := ⟨HT.out.1, fun W hW => HT.out.2.1.keep hW⟩
      have HG1 := hidJ hD1.gb
      clear hD1 hrl hb HD HT hzl hzN
      generalize ls.length = nl at *
      go_wp2_with fail
      refine HP.out.mono ?_
      rintro e w2 ⟨x, y, rfl, hg2, hq⟩
      have HQ := hidJ (hq w2 (.slice ua nl uc) (gb_refl _ _) (HTi.out.2 _ hg2))
      clear hq HP k1 f1 hg2
      go_wp2_with fail
      refine HQ.out.mono ?_
      rintro e w3 ⟨rfl, S3, T3, last3, rs3, qs3, hD3, hl3⟩
      have HD3 : Hid (Duo w w3 S3 T3 gx gr last3 rs3 qs3 ∧ last3 ≤ 1001) := ⟨hD3, hl3⟩
      clear hD3 hl3 HQ HG1
      have q1 : (x != x) = false := by simp
      have q2 : (y != y) = false := by simp
      have hm1 : -1000 < n.tmod 1000 := by
        have := Int.tmod_lt_of_pos (-n) (by decide : (0 : Int) < 1000)
        rw [Int.neg_tmod] at this
        omega
      have hm2 : n.tmod 1000 < 1000 := Int.tmod_lt_of_pos n (by decide)
      obtain ⟨m, hm⟩ : ∃ m, n.tmod 1000 = m := ⟨_, rfl⟩
      rw [hm] at hm1 hm2
      by_cases hneg : m < 0
      · obtain ⟨k, hk⟩ : ∃ k : Nat, -m = (k : Int) := ⟨(-m).toNat, by omega⟩
        have hk1 : k < 1000 := by omega
        have HN3 := hidJ (num_new w3 k hk1)
        go_wp2_with fail
        refine HN3.out.mono ?_
        rintro e w4 ⟨rfl, hu4, hg4⟩
        have HDr := hidJ (drop_prj (HD3.out.1.keep hg4) hu4 (numL_in hk1))
        have HG4 := hidJ hg4
        clear HN3 hu4 hg4
        generalize w3.heap.size = b4 at *
        go_wp2_with fail
        refine HDr.out.mono ?_
        rintro e w5 ⟨xd, rfl, hg5, hq5⟩
        have HQ5 : Hid (w.grownBy w5 none ∧ ∀ W1 u1, w5.grownBy W1 none → RdL W1 u1 (numL k) → Calls Tryz.prog 14 #[.pointer (some ⟨gr, 0, none⟩), u1] W1 fun e w2 => e = .returned (.int .i64 xd) ∧ (∃ S' T' rs' qs', Duo w w2 S' T' gx gr last3 rs' qs')) := ⟨hg5, hq5⟩
        have HN5 := hidJ (num_new w5 k hk1)
        clear hq5 hg5 HDr
        go_wp2_with fail
        refine HN5.out.mono ?_
        rintro e w6 ⟨rfl, hu6, hg6⟩
        have HQ6 := hidJ (HQ5.out.2 w6 _ hg6 hu6)
        clear HN5 hu6 hg6 HQ5
        generalize w5.heap.size = b6 at *
        go_wp2_with fail
        refine HQ6.out.mono ?_
        rintro e w7 ⟨rfl, S7, T7, rs7, qs7, hD7⟩
        have HD7 : Hid (Duo w w7 S7 T7 gx gr last3 rs7 qs7 ∧ last3 ≤ 1001) := ⟨hD7, HD3.out.2⟩
        have HN7 := hidJ (num_new w7 k hk1)
        clear hD7 HQ6 HD3 HG4
        have q3 : (xd != xd) = false := by simp
        go_wp2_with fail
        refine HN7.out.mono ?_
        rintro e w8 ⟨rfl, hu8, hg8⟩
        have HP8 := hidJ (put_prj (HD7.out.1.keep hg8) hu8 (fun _ j hj e => by have e' : w7.heap.size = j := Option.some.inj hj; have := (HD7.out.1.inS _ e).2; omega) (numL_in hk1) HTi.out.1 (by have := HD7.out.2; omega))
        clear HN7 hu8 hg8
        generalize w7.heap.size = b8 at *
        go_wp2_with fail
        refine HP8.out.mono ?_
        rintro e w9 ⟨x9, y9, rfl, hg9, hq9⟩
        have HQ9 := hidJ hq9
        have HN9 := hidJ (num_new w9 k hk1)
        clear hq9 hg9 HP8
        go_wp2_with fail
        refine HN9.out.mono ?_
        rintro e w10 ⟨rfl, hu10, hg10⟩
        have HQ10 := hidJ (HQ9.out w10 _ hg10 hu10)
        clear HN9 hu10 hg10 HQ9
        generalize w9.heap.size = b10 at *
        go_wp2_with fail
        refine HQ10.out.mono ?_
        rintro e w11 ⟨rfl, S11, T11, last11, rs11, qs11, hD11, -⟩
        have HTd : Hid (Calls Tryz.prog 8 #[.pointer (some ⟨gx, 0, none⟩), .pointer (some ⟨gr, 0, none⟩)] w11 fun e w' => e = .returned (.bool true) ∧ w.grownBy w' none) := by
          obtain ⟨v, hr⟩ := hD11.ref
          exact (toldB_any w11 S11 T11 gx gr last11 last11 v rs11 qs11 hD11.prj hr hD11.agr hD11.few).mono fun e w' ⟨p1, p2⟩ => ⟨p1, gb_none hD11.gb p2⟩
        clear hD11 HQ10 HD7
        have q4 : (x9 == x9) = true := by simp
        have q5 : (y9 == y9) = true := by simp
        go_wp2_with fail
        refine HTd.out.mono ?_
        rintro e w12 ⟨rfl, hg12⟩
        have HAw := hidJ (awakeL_any w12 (HTi.out.1.keep hg12))
        have HG12 := hidJ hg12
        clear hg12 HTd
        go_wp2_with fail
        refine HAw.out.mono ?_
        rintro e w13 ⟨rfl, hg13⟩
        have HE := hidJ (gb_below (gb_none HG12.out hg13))
        clear hg13 HAw
        go_wp2
        go_ret
        exact ⟨rfl, HE.out⟩
      · obtain ⟨k, rfl⟩ : ∃ k : Nat, m = (k : Int) := ⟨m.toNat, by omega⟩
        have hk1 : k < 1000 := by omega
        have HN3 := hidJ (num_new w3 k hk1)
        go_wp2_with fail
        refine HN3.out.mono ?_
        rintro e w4 ⟨rfl, hu4, hg4⟩
        have HDr := hidJ (drop_prj (HD3.out.1.keep hg4) hu4 (numL_in hk1))
        have HG4 := hidJ hg4
        clear HN3 hu4 hg4
        generalize w3.heap.size = b4 at *
        go_wp2_with fail
        refine HDr.out.mono ?_
        rintro e w5 ⟨xd, rfl, hg5, hq5⟩
        have HQ5 : Hid (w.grownBy w5 none ∧ ∀ W1 u1, w5.grownBy W1 none → RdL W1 u1 (numL k) → Calls Tryz.prog 14 #[.pointer (some ⟨gr, 0, none⟩), u1] W1 fun e w2 => e = .returned (.int .i64 xd) ∧ (∃ S' T' rs' qs', Duo w w2 S' T' gx gr last3 rs' qs')) := ⟨hg5, hq5⟩
        have HN5 := hidJ (num_new w5 k hk1)
        clear hq5 hg5 HDr
        go_wp2_with fail
        refine HN5.out.mono ?_
        rintro e w6 ⟨rfl, hu6, hg6⟩
        have HQ6 := hidJ (HQ5.out.2 w6 _ hg6 hu6)
        clear HN5 hu6 hg6 HQ5
        generalize w5.heap.size = b6 at *
        go_wp2_with fail
        refine HQ6.out.mono ?_
        rintro e w7 ⟨rfl, S7, T7, rs7, qs7, hD7⟩
        have HD7 : Hid (Duo w w7 S7 T7 gx gr last3 rs7 qs7 ∧ last3 ≤ 1001) := ⟨hD7, HD3.out.2⟩
        have HN7 := hidJ (num_new w7 k hk1)
        clear hD7 HQ6 HD3 HG4
        have q3 : (xd != xd) = false := by simp
        go_wp2_with fail
        refine HN7.out.mono ?_
        rintro e w8 ⟨rfl, hu8, hg8⟩
        have HP8 := hidJ (put_prj (HD7.out.1.keep hg8) hu8 (fun _ j hj e => by have e' : w7.heap.size = j := Option.some.inj hj; have := (HD7.out.1.inS _ e).2; omega) (numL_in hk1) HTi.out.1 (by have := HD7.out.2; omega))
        clear HN7 hu8 hg8
        generalize w7.heap.size = b8 at *
        go_wp2_with fail
        refine HP8.out.mono ?_
        rintro e w9 ⟨x9, y9, rfl, hg9, hq9⟩
        have HQ9 := hidJ hq9
        have HN9 := hidJ (num_new w9 k hk1)
        clear hq9 hg9 HP8
        go_wp2_with fail
        refine HN9.out.mono ?_
        rintro e w10 ⟨rfl, hu10, hg10⟩
        have HQ10 := hidJ (HQ9.out w10 _ hg10 hu10)
        clear HN9 hu10 hg10 HQ9
        generalize w9.heap.size = b10 at *
        go_wp2_with fail
        refine HQ10.out.mono ?_
        rintro e w11 ⟨rfl, S11, T11, last11, rs11, qs11, hD11, -⟩
        have HTd : Hid (Calls Tryz.prog 8 #[.pointer (some ⟨gx, 0, none⟩), .pointer (some ⟨gr, 0, none⟩)] w11 fun e w' => e = .returned (.bool true) ∧ w.grownBy w' none) := by
          obtain ⟨v, hr⟩ := hD11.ref
          exact (toldB_any w11 S11 T11 gx gr last11 last11 v rs11 qs11 hD11.prj hr hD11.agr hD11.few).mono fun e w' ⟨p1, p2⟩ => ⟨p1, gb_none hD11.gb p2⟩
        clear hD11 HQ10 HD7
        have q4 : (x9 == x9) = true := by simp
        have q5 : (y9 == y9) = true := by simp
        go_wp2_with fail
        refine HTd.out.mono ?_
        rintro e w12 ⟨rfl, hg12⟩
        have HAw := hidJ (awakeL_any w12 (HTi.out.1.keep hg12))
        have HG12 := hidJ hg12
        clear hg12 HTd
        go_wp2_with fail
        refine HAw.out.mono ?_
        rintro e w13 ⟨rfl, hg13⟩
        have HE := hidJ (gb_below (gb_none HG12.out hg13))
        clear hg13 HAw
        go_wp2
        go_ret
        exact ⟨rfl, HE.out⟩
end Go.Proofs.YtkipnkpnkhfjhabGreatDoor
