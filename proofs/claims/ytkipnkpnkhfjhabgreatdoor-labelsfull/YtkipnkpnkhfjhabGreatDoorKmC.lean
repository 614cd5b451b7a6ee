/-
  LbJb, LbJc, in one text.
-/
import Derived.Test.YtkipnkpnkhfjhabGreatDoorKmB
import Derived.Test.YtkipnkpnkhfjhabGreatDoorLbJq
import Derived.Test.YtkipnkpnkhfjhabGreatDoorLbP2
import Derived.Test.YtkipnkpnkhfjhabGreatDoorMgC
/- LbJb -/
namespace Go.Proofs.YtkipnkpnkhfjhabGreatDoor
open Go.RowKit Go.Maps Go.WideMaps

def PrjOK (w : World) (S : Nat → Prop) (gx : Nat) (rs : List IdR) (last : Nat) : Prop := ∃ gs gh Ds Dh hv, PrjI w S gx rs last gs gh Ds Dh hv
theorem infoInt : (Tryz.prog.info? 3).map (fun i => (i.zero, i.size, i.bytes)) = some (some (.int .i64 0), 1, 8) := by kernel_rfl
theorem step_appN {w : World} {ops : Array Oper} {o : Oper} {a : Act} {K : Act → World → Prop} {Q : Exit → Act → World → Prop} {E : Prop} (hgd : o.guard = none) (s x : Operand)
    (ho : o.op = .call { callee := .builtin .append, args := #[s, x], argTypes := #[71, 71] })
    (v : Value) (n : Nat) (xs : List Value) (ad : Addr) (news : List Value) (hs : a.eval s = v) (hx : a.eval x = .slice (some ad) 1 1) (hown : w.ownsRow 0 3 1 v n xs) (hl : news.length = 1) (hra : RdC w (some ad) news) (h1 : ∀ u ∈ news, u.oneCell' = true) (hsz : n ≤ 1000)
    (h : ∀ a1 n1 c1 w', w'.ownsRow 0 3 1 (.slice a1 n1 c1) (n + 1) (xs ++ news) → Fr w w' v (.slice a1 n1 c1) → K (a.put o.dst (.slice a1 n1 c1)) w') :
    if Region.wanted o (yielded ops a.tmps) = true then Oper.wp Tryz.prog o a w K Q else E := by
  have hw : Region.wanted o (yielded ops a.tmps) = true := by simp [Region.wanted, hgd]
  rw [if_pos hw]
  obtain ⟨i0, hi, hz0, hz1, hz2⟩ := info_parts infoInt
  obtain ⟨v', w', hrun, h2, h3⟩ := run_appH w o.type 71 3 i0 _ 1 8 0 Tryz.underlying71 hi hz0 hz1 hz2 rfl (by decide) v n xs hown (some ad) 1 1 news hl hra (fun h => by cases h) h1 (by omega) (by omega) (Nat.zero_le _)
  obtain ⟨a1, n1, c1, rfl⟩ : ∃ a n c, v' = .slice a n c := by
    rcases h2.2 with ⟨h, _⟩ | ⟨_, _, _, h, _⟩
    · exact ⟨_, _, _, h⟩
    · exact ⟨_, _, _, h⟩
  unfold Oper.wp execOp
  simp only [ho, resolve, invoke, builtin, Sem.run_bind, Sem.run_pure, Result.andThen_ok, List.map_toArray, List.map_cons, List.map_nil, hs, hx, hrun]
  exact h a1 n1 c1 w' h2 h3
theorem lit1N (w : World) (x : Value) : RdC ((w.alloc (.cells #[x] 3)).drew) (some ⟨w.heap.size, 0, none⟩) [x] := by
  intro j v hj
  refine ⟨_, rfl, ?_⟩
  rw [Go.WideShapes.add_plain]
  have ha : ((w.alloc (.cells #[x] 3)).drew).heap[w.heap.size]? = _ := alloc_atI w (.cells #[x] 3)
  simp only [World.cell?, ha]
  simpa using hj

theorem PrjI.lookH' {w w' : World} {S : Nat → Prop} {gx last gs gh n : Nat} {rs : List IdR} {Ds Dh : DataW Unit} {hv : BitVec 64 → Value} (h : PrjI w S gx rs last gs gh Ds Dh hv) (hm : w'.ownsMap Tryz.prog 64 slElem gh n Dh) (x : BitVec 64) :
    (Instr.lookup 49 (.map (some gh)) (.int .u64 (I64 x)) false).run Tryz.prog w' = .ok (rowH rs hv x) w' := by
  obtain ⟨v, ps, h1, h2⟩ := hm.lookup keyU Tryz.underlying49 (zeroSI w') (R := slElem) (zd := .nil) (zp := []) rfl (keyUn x)
  by_cases hx : ofH rs x = []
  · have hn : Maps.has Dh (.int .u64 (I64 x)) = false := by rw [h.hasH, hx]; rfl
    rw [atKey_of_not_has hn] at h2
    have : v = .slice none 0 0 := Shp.inv (v := .slice none 0 0) (.inl rfl) h2
    unfold rowH
    rw [if_pos hx, ← this]
    exact h1
  · rw [h.atH x hx] at h2
    have : v = hv x := Shp.inv (row_shp (h.rows x hx)) h2
    unfold rowH
    rw [if_neg hx, ← this]
    exact h1
theorem rowH_own {w w' : World} {S : Nat → Prop} {gx last gs gh : Nat} {rs : List IdR} {Ds Dh : DataW Unit} {hv : BitVec 64 → Value} (h : PrjI w S gx rs last gs gh Ds Dh hv) (x : BitVec 64) (hk : ∀ k, k ≠ gx → k ≠ gs → k < w.heap.size → w'.heap[k]? = w.heap[k]?) : w'.ownsRow 0 3 1 (rowH rs hv x) (ofH rs x).length (idsOf rs x) := by
  unfold rowH
  by_cases hx : ofH rs x = []
  · rw [if_pos hx]
    unfold idsOf
    rw [hx]
    exact World.ownsRow_nil _ _ _ _
  · rw [if_neg hx]
    refine row_via (h.rows x hx) (fun k hk' => ?_)
    obtain ⟨q1, q2, q3, q4⟩ := h.ne_row hx hk'
    exact hk k q1 q2 q4

set_option maxRecDepth 8000 in
set_option maxHeartbeats 12800000 in
theorem prjAdd_any (w : World) (S : Nat → Prop) (gx last : Nat) (rs : List IdR) (u : Value) (ls : List LbT) (h : PrjOK w S gx rs last) (hu : RdL w u ls) (hud : ∀ k, u.ownBlock = some k → ¬ S k) (hl : LbIn ls) (hlen : ls.length ≤ 16) (hlt : rs.length < 1000) (hla : last < 1000000000000000000) :
    Calls Tryz.prog 30 #[.pointer (some ⟨gx, 0, none⟩), u] w fun e w' => ∃ own, e = .returned (.int .i64 ((last + 1 : Nat) : Int)) ∧ PrjOK w' (Gr S w w') gx (rs ++ [⟨last + 1, own, ls⟩]) (last + 1) ∧ Ch w w' S := by
  obtain ⟨gs, gh, Ds, Dh, hv, h⟩ := h
  have HW : Hid (PrjI w S gx rs last gs gh Ds Dh hv) := h
  obtain ⟨c0, c1, c2, f2⟩ := h.cells
  obtain ⟨ua, uc, rfl⟩ : ∃ a c, u = .slice a ls.length c := by obtain ⟨a, c, h, _⟩ := hu; exact ⟨a, c, h⟩
  obtain ⟨la1, hla1⟩ : ∃ la1 : Nat, la1 = last + 1 := ⟨_, rfl⟩
  have hlai : (last : Int) + 1 = (la1 : Int) := by omega
  have HLA : Hid (la1 = last + 1) := hla1
  have hla2 : la1 ≤ 1000000000000000000 := by omega
  -- the first world: the last number is one more
  have hch1 : Ch w (w.setCell ⟨gx, 2, none⟩ (.int .i64 (la1 : Int))) (fun k => k = gx) := Ch.of_gb (gb_setI w gx 2 _) (fun k hk _ => by cases hk; rfl)
  have hb1 : (w.setCell ⟨gx, 2, none⟩ (.int .i64 (la1 : Int))).heap[gx]? = some (.cells #[.map (some gs), .map (some gh), .int .i64 (la1 : Int)] 51) := by
    have := heap_setCell_same w gx 2 _ _ (.int .i64 (la1 : Int)) h.box
    rw [this]
    rfl
  have hrd1 : RdL (w.setCell ⟨gx, 2, none⟩ (.int .i64 (la1 : Int))) (.slice ua ls.length uc) ls := hu.ch hch1 (fun k hk _ e => by have e' : k = gx := e; exact hud k hk (by rw [e']; exact h.inX))
  have hms1 : (w.setCell ⟨gx, 2, none⟩ (.int .i64 (la1 : Int))).ownsMap Tryz.prog 3 slElem gs last Ds := mapI_via h.sets (hch1.block h.sets.lt h.ne_sx.1)
  have HMN : Hid True := trivial
  have hmn : ∀ W, (binOp .eql 48 (.map (some gs)) (.map none)).run Tryz.prog W = .ok (.bool false) W := fun W => rfl
  have H1 : Hid (Ch w (w.setCell ⟨gx, 2, none⟩ (.int .i64 (la1 : Int))) (fun k => k = gx) ∧ (w.setCell ⟨gx, 2, none⟩ (.int .i64 (la1 : Int))).heap[gx]? = some (.cells #[.map (some gs), .map (some gh), .int .i64 (la1 : Int)] 51) ∧ RdL (w.setCell ⟨gx, 2, none⟩ (.int .i64 (la1 : Int))) (.slice ua ls.length uc) ls ∧ (w.setCell ⟨gx, 2, none⟩ (.int .i64 (la1 : Int))).ownsMap Tryz.prog 3 slElem gs last Ds) := ⟨hch1, hb1, hrd1, hms1⟩
  have HNE : Hid (gs ≠ gx) := h.ne_sx.1
  have HUD : Hid (∀ k, (Value.slice ua ls.length uc).ownBlock = some k → ¬ S k) := hud
  have HNN : Hid (rs.length < 1000 ∧ last < 1000000000000000000 ∧ LbIn ls) := ⟨hlt, hla, hl⟩
  have hsz1 : (w.setCell ⟨gx, 2, none⟩ (.int .i64 (la1 : Int))).heap.size = w.heap.size := by simp
  clear h hu hud hch1 hb1 hrd1 hms1 hla1 hl hlt hla
  go_enter Tryz.func30, Tryz.ntmps30
  go_wp2_with fail
  generalize w.setCell ⟨gx, 2, none⟩ (.int .i64 (la1 : Int)) = w1 at *
  have HSZ : Hid (w1.heap.size = w.heap.size) := hsz1
  have hlx : gx < w1.heap.size := some_lt H1.out.2.1
  obtain ⟨B1, hB1⟩ : ∃ B1, B1 = w1.heap.size := ⟨_, rfl⟩
  have HB1 : Hid (w1.heap.size = B1) := hB1.symm
  have HB2 : Hid (w1.drew.heap.size = B1) := hB1.symm
  have HCP : Hid (∀ W, w1.grownBy W none → W.heap.size = B1 → Calls Tryz.prog 36 #[.slice ua ls.length uc] W fun e w2 => e = .returned (.slice (some ⟨B1, 0, none⟩) ls.length ls.length) ∧ w2.cell? ⟨gx, 0, none⟩ = some (.map (some gs)) ∧ w2.cell? ⟨gx, 2, none⟩ = some (.int .i64 (la1 : Int)) ∧ ∃ w3, (Instr.mapUpdate 48 (.map (some gs)) (.int .i64 (la1 : Int)) (.slice (some ⟨B1, 0, none⟩) ls.length ls.length)).run Tryz.prog w2 = .ok () w3 ∧ w3.cell? ⟨gx, 0, none⟩ = some (.map (some gs)) ∧ w3.cell? ⟨gx, 2, none⟩ = some (.int .i64 (la1 : Int)) ∧ Hid (OwnL w2 w.heap.size (.slice (some ⟨B1, 0, none⟩) ls.length ls.length) ls ∧ w1.grownBy w2 none ∧ w3.ownsMap Tryz.prog 3 slElem gs (last + 1) (Ds.put (.int .i64 (la1 : Int)) (slD (.slice (some ⟨B1, 0, none⟩) ls.length ls.length))) ∧ w2.grownBy w3 (some gs))) := fun W hW hWB =>
    (copyOf_any W _ ls (H1.out.2.2.1.keep hW) (by omega)).mono fun e w2 ⟨h1, h2, h3⟩ => by
      have hg := gb_none hW h3
      have hb : w2.heap[gx]? = _ := (hg.block gx hlx (by simp)).trans H1.out.2.1
      have hm2 : w2.ownsMap Tryz.prog 3 slElem gs last Ds := H1.out.2.2.2.kept hg (by simp)
      obtain ⟨w3, q1, q2, q3⟩ := hm2.update keyI Tryz.underlying48 (by have := HNN.out.2.1; unfold maxLen; omega) (keyIn (la1 : Int) (by omega) (by omega)) (val := .slice (some ⟨B1, 0, none⟩) ls.length ls.length) (d := slD (.slice (some ⟨B1, 0, none⟩) ls.length ls.length)) (ps := []) rfl
      have ho : OwnL w2 W.heap.size (.slice (some ⟨W.heap.size, 0, none⟩) ls.length ls.length) ls := copy_own h2 (by omega)
      rw [hWB] at h1 ho
      have hb3 : w3.heap[gx]? = _ := (q3.block gx (by have := hg.size; omega) (by intro e; exact HNE.out (by injection e with e; exact e.symm))).trans hb
      exact ⟨h1, by simp [World.cell?, hb], by simp [World.cell?, hb], w3, q1, by simp [World.cell?, hb3], by simp [World.cell?, hb3], ho.mono (by have := HSZ.out; omega), hg, q2, q3⟩
  clear hB1
  clear hsz1 c0 c1 c2 f2
  have k0 : w1.cell? ⟨gx, 0, none⟩ = some (.map (some gs)) := by simp [World.cell?, H1.out.2.1]
  have k2 : w1.cell? ⟨gx, 2, none⟩ = some (.int .i64 (la1 : Int)) := by simp [World.cell?, H1.out.2.1]
  go_region_held3 (fun w' => w'.cell? ⟨gx, 0, none⟩ = some (.map (some gs)) ∧ w'.cell? ⟨gx, 2, none⟩ = some (.int .i64 (la1 : Int))) (go_keep)
    (first | (go_at_call 36; with_reducible refine (HCP.out _ ?_ ?_).mono ?_; (first | exact gb_refl _ _ | exact gb_drew _ none); (first | exact HB1.out | exact HB2.out); rintro e w2 ⟨rfl, d0, d2, w3, hrun, e0, e2, H3⟩))
  clear hrun d0 d2 HCP HB1 HB2 hmn HMN
  have hz13 : w1.heap.size ≤ w3.heap.size := by have := H3.out.2.1.size; have := H3.out.2.2.2.size; omega
  have HB3 : Hid (w3.heap[gx]? = some (.cells #[.map (some gs), .map (some gh), .int .i64 (la1 : Int)] 51)) := (H3.out.2.2.2.block gx (by have := H3.out.2.1.size; omega) (by intro e; exact HNE.out (by injection e with e; exact e.symm))).trans ((H3.out.2.1.block gx hlx (by simp)).trans H1.out.2.1)
  have HRd3 : Hid (RdL w3 (.slice ua ls.length uc) ls) := (H1.out.2.2.1.keep H3.out.2.1).ch (S := fun k => k = gs) (Ch.of_gb H3.out.2.2.2 (fun k hk _ => by cases hk; rfl)) (fun k hk _ e => by have e' : k = gs := e; exact HUD.out k hk (by rw [e']; exact HW.out.inS))
  have HHA : Hid (Calls Tryz.prog 28 #[.slice ua ls.length uc] w3 fun e w' => e = .returned (.int .u64 (I64 (hs ls))) ∧ w3.grownBy w' none) := hash_any w3 _ ls HRd3.out HNN.out.2.2
  go_wp2_with fail
  refine HHA.out.mono ?_
  rintro e w4 ⟨rfl, hg4⟩
  have H4 : Hid (w3.grownBy w4 none) := hg4
  clear HHA e0 e2 hg4
  have hb4 : w4.heap[gx]? = _ := (H4.out.block gx (by omega) (by simp)).trans HB3.out
  have HB4 : Hid (w4.heap[gx]? = some (.cells #[.map (some gs), .map (some gh), .int .i64 (la1 : Int)] 51)) := hb4
  have HK4 : Hid (∀ k, k ≠ gx → k ≠ gs → k < w.heap.size → w4.heap[k]? = w.heap[k]?) := fun k h1 h2 h3 => by
    have hs1 := H1.out.1.size
    have hs2 := H3.out.2.1.size
    have hs3 := H3.out.2.2.2.size
    rw [H4.out.block k (by omega) (by simp), H3.out.2.2.2.block k (by omega) (by intro e; exact h2 (by injection e)), H3.out.2.1.block k (by omega) (by simp)]
    exact H1.out.1.block h3 h1
  have hlt4 : gx < w4.heap.size := some_lt hb4
  have HM4 : Hid (w4.ownsMap Tryz.prog 64 slElem gh last Dh) := mapI_via HW.out.hash (HK4.out gh (fun e => HW.out.ne_sx.2 e) (fun e => HW.out.gsh e.symm) HW.out.hash.lt)
  have HRW : Hid (w4.ownsRow 0 3 1 (rowH rs hv (hs ls)) (ofH rs (hs ls)).length (idsOf rs (hs ls))) := rowH_own HW.out (hs ls) HK4.out
  obtain ⟨va, vc, hrow, -⟩ := rowH_shape HW.out (hs ls)
  have HUP : Hid (∀ w5 a n c C, w5.ownsRow 0 3 1 (.slice a n c) ((ofH rs (hs ls)).length + 1) (idsOf rs (hs ls) ++ [.int .i64 (la1 : Int)]) → Fr ((w4.alloc C).drew) w5 (rowH rs hv (hs ls)) (.slice a n c) → ∃ w6, (Instr.mapUpdate 49 (.map (some gh)) (.int .u64 (I64 (hs ls))) (.slice a n c)).run Tryz.prog w5 = .ok () w6 ∧ w5.cell? ⟨gx, 1, none⟩ = some (.map (some gh)) ∧ w6.cell? ⟨gx, 2, none⟩ = some (.int .i64 (la1 : Int)) ∧ Hid (PrjOK w6 (Gr S w w6) gx (rs ++ [⟨last + 1, .slice (some ⟨B1, 0, none⟩) ls.length ls.length, ls⟩]) (last + 1) ∧ Ch w w6 S)) := fun w5 a n c C h1 h2 => by
    have hvb : ∀ k, (rowH rs hv (hs ls)).ownBlock = some k → k ≠ gx ∧ k ≠ gs ∧ k ≠ gh ∧ k < w.heap.size := fun k hk => HW.out.ne_row (rowH_block hk).1 (rowH_block hk).2
    have hm4 : ((w4.alloc C).drew).ownsMap Tryz.prog 64 slElem gh last Dh := (HM4.out.alloc C).drew
    have hm5 : w5.ownsMap Tryz.prog 64 slElem gh last Dh := hm4.kept h2.1 (fun e => (hvb gh e.symm).2.2.1 rfl)
    obtain ⟨w6, q1, q2, q3⟩ := hm5.update keyU Tryz.underlying49 (by have := HNN.out.2.1; unfold maxLen; omega) (keyUn (hs ls)) (val := .slice a n c) (d := slD (.slice a n c)) (ps := []) ((row_shp h1).elem)
    have hx5 : w5.heap[gx]? = _ := (h2.1.block gx (by simp; omega) (fun e => (hvb gx e.symm).1 rfl)).trans (((World.grownBy_alloc w4 C none).block gx hlt4 (by simp)).trans HB4.out)
    have hx6 : w6.heap[gx]? = _ := (q3.block gx (some_lt hx5) (by intro e; exact HW.out.ne_sx.2 (by injection e with e; exact e.symm))).trans hx5
    have hE := H3.out
    have hO := H1.out
    rw [HLA.out] at h1 hE hO
    have hend := addI_end HW.out HNN.out.1 HNN.out.2.1 hO.1 hO.2.1 hE.2.1 hE.1 hE.2.2.1 hE.2.2.2 H4.out h1 h2 q2 q3
    exact ⟨w6, q1, by simp [World.cell?, hx5], by simp [World.cell?, hx6], ⟨_, _, _, _, _, hend.1⟩, hend.2⟩
  have hlk := fun (W : World) (hm : W.ownsMap Tryz.prog 64 slElem gh last Dh) => HW.out.lookH' hm (hs ls)
  rw [hrow] at HUP HRW hlk
  have lk0 := hlk w4 HM4.out
  have lk1 := hlk w4.drew HM4.out.drew
  have lk2 : ∀ o, (Instr.lookup 49 (.map (some gh)) (.int .u64 (I64 (hs ls))) false).run Tryz.prog (w4.alloc o) = .ok (.slice va (ofH rs (hs ls)).length vc) (w4.alloc o) := fun o => hlk _ (HM4.out.alloc o)
  have lk3 : ∀ o, (Instr.lookup 49 (.map (some gh)) (.int .u64 (I64 (hs ls))) false).run Tryz.prog (w4.alloc o).drew = .ok (.slice va (ofH rs (hs ls)).length vc) (w4.alloc o).drew := fun o => hlk _ (HM4.out.alloc o).drew
  have HNL : Hid ((ofH rs (hs ls)).length ≤ 1000) := Nat.le_trans (List.length_filter_le _ _) HW.out.most
  clear hlk hrow
  generalize hs ls = x at *
  generalize (ofH rs x).length = n at *
  generalize idsOf rs x = ids at *
  have k1 : w4.cell? ⟨gx, 1, none⟩ = some (.map (some gh)) := by simp [World.cell?, HB4.out]
  have k2' : w4.cell? ⟨gx, 2, none⟩ = some (.int .i64 (la1 : Int)) := by simp [World.cell?, HB4.out]
  have l1 : ∀ o, (w4.alloc o).cell? ⟨gx, 1, none⟩ = some (.map (some gh)) := fun o => (World.cell?_of_block ((World.grownBy_alloc w4 o none).block gx hlt4 (by simp))).trans k1
  have l2 : ∀ o, (w4.alloc o).cell? ⟨gx, 2, none⟩ = some (.int .i64 (la1 : Int)) := fun o => (World.cell?_of_block ((World.grownBy_alloc w4 o none).block gx hlt4 (by simp))).trans k2'
  clear k0 k2 hb4
  go_wp2_with fail
  go_region_law (refine step_appN rfl (.tmp 48) (.tmp 53) rfl (.slice va n vc) n ids ⟨w4.heap.size, 0, none⟩ [.int .i64 (la1 : Int)] (by simp [Act.eval]) (by simp [Act.eval]) (row_via (World.ownsRow.alloc HRW.out (.cells #[.int .i64 (la1 : Int)] 3)) (fun _ _ => rfl)) rfl (lit1N _ _) (by intro u hu; simp only [List.mem_cons, List.not_mem_nil, or_false] at hu; subst hu; rfl) HNL.out ?_; intro a5 n5 c5 w5 ho5 hf5; obtain ⟨w6, hrun6, d5, d6, H6⟩ := HUP.out w5 a5 n5 c5 _ ho5 hf5; clear ho5 hf5)
  all_goals (try go_wp2)
  all_goals go_ret
  all_goals exact ⟨.slice (some ⟨B1, 0, none⟩) ls.length ls.length, by (rw [← HLA.out]; first | done | rfl), H6.out⟩
end Go.Proofs.YtkipnkpnkhfjhabGreatDoor

/- LbJc -/
namespace Go.Proofs.YtkipnkpnkhfjhabGreatDoor
open Go.RowKit Go.Maps Go.WideMaps

set_option maxRecDepth 8000 in
set_option maxHeartbeats 3200000 in
theorem newIds_any (w : World) : Calls Tryz.prog 6 #[] w fun e w' => ∃ gx, e = .returned (.pointer (some ⟨gx, 0, none⟩)) ∧ PrjOK w' (fun k => w.heap.size ≤ k ∧ k < w'.heap.size) gx [] 0 ∧ w.grownBy w' none := by
  have hmm := @run_makeMap Tryz.prog
  go_enter Tryz.func6, Tryz.ntmps6
  go_wp2
  go_ret
  have hg : w.grownBy (((w.alloc (.map #[] 0)).alloc (.map #[] 0)).alloc (.cells #[.map (some w.heap.size), .map (some (w.heap.size + 1)), .int .i64 0] 51)) none := gb_none (gb_none (World.grownBy_alloc _ _ none) (World.grownBy_alloc _ _ none)) (World.grownBy_alloc _ _ none)
  have hbx : (((w.alloc (.map #[] 0)).alloc (.map #[] 0)).alloc (.cells #[.map (some w.heap.size), .map (some (w.heap.size + 1)), .int .i64 0] 51)).heap[w.heap.size + 2]? = some (.cells #[.map (some w.heap.size), .map (some (w.heap.size + 1)), .int .i64 0] 51) := by
    have := alloc_atI ((w.alloc (.map #[] 0)).alloc (.map #[] 0)) (.cells #[.map (some w.heap.size), .map (some (w.heap.size + 1)), .int .i64 0] 51)
    simpa using this
  have hm2 : ((w.alloc (.map #[] 0)).alloc (.map #[] 0)).ownsMap Tryz.prog 64 slElem (w.heap.size + 1) 0 (.map []) := by
    have := World.ownsMap_made (w.alloc (.map #[] 0)) Tryz.prog 64 slElem
    simpa using this
  refine ⟨w.heap.size + 2, rfl, ⟨w.heap.size, w.heap.size + 1, .map [], .map [], fun _ => .slice none 0 0, ?_⟩, hg⟩
  refine ⟨hbx, ((World.ownsMap_made w Tryz.prog 3 slElem).alloc _).alloc _, hm2.alloc _, rfl, fun n => rfl, ?_, ?_, ?_, fun x => rfl, ?_, ?_, ?_, ?_, ?_, ?_, ?_, by omega, List.Pairwise.nil, ?_, by simp, by omega⟩
  · intro r hr; cases hr
  · intro r hr; cases hr
  · intro r hr; cases hr
  · intro x hx; exact absurd rfl hx
  · intro x hx; exact absurd rfl hx
  · exact ⟨by omega, by (simp <;> omega)⟩
  · exact ⟨by omega, by (simp <;> omega)⟩
  · exact ⟨by omega, by (simp <;> omega)⟩
  · intro x hx; exact absurd rfl hx
  · intro x y hx; exact absurd rfl hx
  · intro r hr; cases hr

set_option maxRecDepth 8000 in
set_option maxHeartbeats 6400000 in
theorem prjPut_any (w : World) (S : Nat → Prop) (gx last : Nat) (rs : List IdR) (u : Value) (ls : List LbT) (h : PrjOK w S gx rs last) (hu : RdL w u ls) (hud : rs.length < 1000 → ∀ k, u.ownBlock = some k → ¬ S k) (hl : LbIn ls) (hT : U8S w) (hla : last < 1000000000000000000) :
    Calls Tryz.prog 10 #[.pointer (some ⟨gx, 0, none⟩), u] w fun e w' => ∃ own, e = .returned (.tuple #[.int .i64 (putI rs last own ls).1, .int .i64 (putI rs last own ls).2.1]) ∧ PrjOK w' (Gr S w w') gx (putI rs last own ls).2.2.1 (putI rs last own ls).2.2.2 ∧ Ch w w' S := by
  have HR := right_any w u ls hu hl hT
  obtain ⟨gs, gh, Ds, Dh, hv, h⟩ := h
  have HW : Hid (PrjI w S gx rs last gs gh Ds Dh hv ∧ RdL w u ls) := ⟨h, hu⟩
  have HF : Hid (∀ W, w.grownBy W none → Calls Tryz.prog 15 #[.pointer (some ⟨gx, 0, none⟩), u] W fun e w' => e = .returned (.tuple #[.int .i64 (numI rs ls).1, .bool (numI rs ls).2]) ∧ W.grownBy w' none) := fun W hW => prjFind_any W S gx last gs gh rs Ds Dh hv u ls (h.keep hW) (hu.keep hW) hl
  have HSM : Hid (∀ w', w.grownBy w' none → PrjOK w' (Gr S w w') gx rs last ∧ Ch w w' S) := fun w' hg => ⟨⟨gs, gh, Ds, Dh, hv, (h.keep hg).mono (fun _ _ => .inl)⟩, Ch.of_gb hg (fun k hk => by cases hk)⟩
  have hm := h.most
  obtain ⟨ua, uc, rfl⟩ : ∃ a c, u = .slice a ls.length c := by obtain ⟨a, c, h, _⟩ := hu; exact ⟨a, c, h⟩
  clear h hu
  by_cases hr : (rightS ls).1 = 0
  · rw [hr] at HR
    have HR := hidJ HR
    have hlen : ls.length ≤ 16 := by
      unfold rightS at hr
      by_cases h16 : 16 < ls.length
      · rw [if_pos h16] at hr; cases hr
      · omega
    have HPI : Hid (∀ own, putI rs last own ls = if (numI rs ls).2 = true then ((numI rs ls).1, 0, rs, last) else if 1000 ≤ rs.length then (0, 8, rs, last) else (((last + 1 : Nat) : Int), 0, rs ++ [⟨last + 1, own, ls⟩], last + 1)) := fun own => by
      unfold putI
      rw [if_neg (by simpa using hr)]
    clear hr
    generalize (rightS ls).2 = ri at *
    generalize numI rs ls = NI at *
    obtain ⟨ni, nb⟩ := NI
    dsimp only at *
    cases nb with
    | true =>
      have HPJ : Hid (∀ own, putI rs last own ls = (ni, 0, rs, last)) := fun own => by rw [HPI.out own, if_pos rfl]
      clear HPI
      go_enter Tryz.func10, Tryz.ntmps10
      go_wp2_with fail
      refine HR.out.mono ?_
      rintro e w1 ⟨rfl, hg1⟩
      have H1 : Hid (w.grownBy w1 none) := hg1
      clear HR hg1
      go_wp2_with fail
      refine (HF.out _ H1.out).mono ?_
      rintro e w2 ⟨rfl, hg2⟩
      have H2 : Hid (w.grownBy w2 none) := gb_none H1.out hg2
      clear HF hg2 H1
      go_wp2
      go_ret2
      exact ⟨.slice none 0 0, by (rw [HPJ.out]; first | done | rfl), by rw [HPJ.out]; exact (HSM.out _ H2.out).1, (HSM.out _ H2.out).2⟩
    | false =>
      by_cases hfull : 1000 ≤ rs.length
      · have hfi : (1000 : Int) ≤ (rs.length : Int) := by omega
        have HPJ : Hid (∀ own, putI rs last own ls = (0, 8, rs, last)) := fun own => by rw [HPI.out own, if_neg (by simp), if_pos hfull]
        have HLE : Hid (∀ W ty, w.grownBy W none → W.cell? ⟨gx, 0, none⟩ = some (.map (some gs)) ∧ (Builtin.len_ #[48] ty #[.map (some gs)]).run Tryz.prog W = .ok (.int .i64 (rs.length : Int)) W) := fun W ty hW => by
          have hk := HW.out.1.keep hW
          have := hk.sets.len Tryz.underlying48 ty
          rw [hk.size] at this
          exact ⟨hk.cells.1, this⟩
        clear HPI hfull
        generalize rs.length = L at *
        go_enter Tryz.func10, Tryz.ntmps10
        go_wp2_with fail
        refine HR.out.mono ?_
        rintro e w1 ⟨rfl, hg1⟩
        have H1 : Hid (w.grownBy w1 none) := hg1
        clear HR hg1
        go_wp2_with fail
        refine (HF.out _ H1.out).mono ?_
        rintro e w2 ⟨rfl, hg2⟩
        have H2 : Hid (w.grownBy w2 none) := gb_none H1.out hg2
        have hc := fun ty => (HLE.out w2 ty H2.out).2
        have hc0 := (HLE.out w2 0 H2.out).1
        clear HF hg2 H1 HLE
        go_wp2
        go_ret2
        exact ⟨.slice none 0 0, by (rw [HPJ.out]; first | done | rfl), by rw [HPJ.out]; exact (HSM.out _ H2.out).1, (HSM.out _ H2.out).2⟩
      · have hfi : ¬ (1000 : Int) ≤ (rs.length : Int) := by omega
        have HPJ : Hid (∀ own, putI rs last own ls = (((last + 1 : Nat) : Int), 0, rs ++ [⟨last + 1, own, ls⟩], last + 1)) := fun own => by rw [HPI.out own, if_neg (by simp), if_neg hfull]
        have HLE : Hid (∀ W ty, w.grownBy W none → W.cell? ⟨gx, 0, none⟩ = some (.map (some gs)) ∧ (Builtin.len_ #[48] ty #[.map (some gs)]).run Tryz.prog W = .ok (.int .i64 (rs.length : Int)) W) := fun W ty hW => by
          have hk := HW.out.1.keep hW
          have := hk.sets.len Tryz.underlying48 ty
          rw [hk.size] at this
          exact ⟨hk.cells.1, this⟩
        have HAD : Hid (∀ W, w.grownBy W none → Calls Tryz.prog 30 #[.pointer (some ⟨gx, 0, none⟩), .slice ua ls.length uc] W fun e w' => ∃ own, e = .returned (.int .i64 ((last + 1 : Nat) : Int)) ∧ PrjOK w' (Gr S W w') gx (rs ++ [⟨last + 1, own, ls⟩]) (last + 1) ∧ Ch W w' S) := fun W hW => prjAdd_any W S gx last rs _ ls ⟨gs, gh, Ds, Dh, hv, HW.out.1.keep hW⟩ (HW.out.2.keep hW) (hud (by omega)) hl hlen (by omega) hla
        clear HPI hfull
        generalize hL : rs.length = L at *
        clear hL
        obtain ⟨la1, hla1⟩ : ∃ la1 : Int, la1 = ((last + 1 : Nat) : Int) := ⟨_, rfl⟩
        rw [← hla1] at HAD HPJ
        clear hla1
        go_enter Tryz.func10, Tryz.ntmps10
        go_wp2_with fail
        refine HR.out.mono ?_
        rintro e w1 ⟨rfl, hg1⟩
        have H1 : Hid (w.grownBy w1 none) := hg1
        clear HR hg1
        go_wp2_with fail
        refine (HF.out _ H1.out).mono ?_
        rintro e w2 ⟨rfl, hg2⟩
        have H2 : Hid (w.grownBy w2 none) := gb_none H1.out hg2
        have hc := fun ty => (HLE.out w2 ty H2.out).2
        have hc0 := (HLE.out w2 0 H2.out).1
        clear HF hg2 H1 HLE
        go_wp2_with fail
        refine (HAD.out _ H2.out).mono ?_
        rintro e w3 ⟨own, rfl, hP3, hC3⟩
        have H3 : Hid (PrjOK w3 (Gr S w w3) gx (rs ++ [⟨last + 1, own, ls⟩]) (last + 1) ∧ Ch w w3 S) := by
          refine ⟨?_, (Ch.of_gb (S := S) H2.out (fun k hk => by cases hk)).trans hC3 (fun _ _ h => h)⟩
          obtain ⟨a1, a2, a3, a4, a5, hP⟩ := hP3
          refine ⟨a1, a2, a3, a4, a5, hP.mono (fun k _ hk => ?_)⟩
          rcases hk with hk | hk
          · exact .inl hk
          · exact .inr ⟨Nat.le_trans H2.out.size hk.1, hk.2⟩
        clear HAD hP3 hC3
        go_wp2
        go_ret2
        exact ⟨own, by (rw [HPJ.out]; first | done | rfl), by rw [HPJ.out]; exact H3.out.1, H3.out.2⟩
  · have HPJ : Hid (∀ own, putI rs last own ls = (0, (rightS ls).1, rs, last)) := fun own => by
      unfold putI
      rw [if_pos hr]
    have HR := hidJ HR
    generalize (rightS ls).1 = E at *
    generalize (rightS ls).2 = ri at *
    have hrb : (E == 0) = false := by rw [beq_eq_false_iff_ne]; exact hr
    go_enter Tryz.func10, Tryz.ntmps10
    go_wp2_with fail
    refine HR.out.mono ?_
    rintro e w1 ⟨rfl, hg1⟩
    have H1 : Hid (w.grownBy w1 none) := hg1
    clear HR hg1
    go_wp2
    go_ret2
    exact ⟨.slice none 0 0, by (rw [HPJ.out]; first | done | rfl), by rw [HPJ.out]; exact (HSM.out _ H1.out).1, (HSM.out _ H1.out).2⟩
end Go.Proofs.YtkipnkpnkhfjhabGreatDoor
