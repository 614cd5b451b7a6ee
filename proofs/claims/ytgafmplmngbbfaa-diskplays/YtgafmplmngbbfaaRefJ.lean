/-
  A copy of the document's disk: the walk.
-/
import Derived.Test.YtgafmplmngbbfaaRefI
namespace Go.Proofs.Ytgafmplmngbbfaa
open Go.RowKit Go.Maps Go.WideMaps

/-- what a file is, wherever its bytes lie -/
def keyR (r : RF) : Bs × Bs × Nat := (r.name, r.bytes, r.synced)
theorem lkR_key {a b : List RF} (h : a.map keyR = b.map keyR) (l : Bs) : lkR a l = lkR b l := by
  have e : ∀ c : List RF, lkR c l = ((c.map keyR).find? (fun k => k.1 == l)).map (fun k => (k.2.1, k.2.2)) := fun c => by
    unfold lkR
    rw [List.find?_map, Option.map_map]
    rfl
  rw [e, e, h]
/-- one file more behind the row -/
theorem RefW.snoc {w w' : World} {S S' : Nat → Prop} {gc : Nat} {v v' : Value} {rs : List RF} {r : RF} (h : RefW w S gc v rs) (hbox : w'.heap[gc]? = some (.cells #[v'] 28)) (hrow : w'.ownsRow 0 56 3 v' (rs ++ [r]).length (rff (rs ++ [r]))) (hS : ∀ k, k < w.heap.size → S k → S' k) (hR : ∀ k, v'.ownBlock = some k → S' k) (hsame : ∀ (k : Nat) (cur : Array Value) (fr : Nat × Nat), w.heap[k]? = some (Obj.cells cur 5 fr) → w'.heap[k]? = w.heap[k]?)
    (hr : Rb w' S' r.val r.bytes) (hf : nameOk r.name = true ∧ r.synced ≤ r.bytes.length ∧ r.bytes.length ≤ 1048576) (hlt : ∀ q ∈ rs, q.name < r.name) (hm : rs.length < 256) : RefW w' S' gc v' (rs ++ [r]) := by
  refine ⟨hbox, hrow, hS _ (some_lt h.box) h.inB, hR, fun q hq => ?_, fun q hq => ?_, ?_, by simp; omega⟩
  · rcases List.mem_append.1 hq with hq | hq
    · have hb := h.each q hq
      have via : ∀ k, q.val.ownBlock = some k → w'.heap[k]? = w.heap[k]? := fun k hk => by
        obtain ⟨_, cur, fr, h2⟩ := hb.2 k hk
        exact hsame k cur fr h2
      refine ⟨?_, fun k hk => ?_⟩
      · obtain ⟨a, c, hv, x1, x2, x3, x4⟩ := hb.1
        refine ⟨a, c, hv, x1, x2, fun j hj => ?_, x4⟩
        obtain ⟨b, o, hbo, hc⟩ := x3 j hj
        refine ⟨b, o, hbo, ?_⟩
        rw [← hc]
        exact World.cell?_of_block (a := ⟨b, o + j, none⟩) (via b (by rw [hv, hbo]; rfl))
      · obtain ⟨h1, cur, fr, h2⟩ := hb.2 k hk
        exact ⟨hS k (some_lt h2) h1, cur, fr, by rw [via k hk]; exact h2⟩
    · rw [List.mem_singleton.1 hq]; exact hr
  · rcases List.mem_append.1 hq with hq | hq
    · exact h.fits q hq
    · rw [List.mem_singleton.1 hq]; exact hf
  · refine List.pairwise_append.2 ⟨h.srt, by simp, fun p hp q hq => ?_⟩
    rw [List.mem_singleton.1 hq]; exact hlt p hp

theorem copyR_end {w wr w2 w4 w5 : World} {S : Nat → Prop} {gr k z : Nat} {vv v' v5 vb : Value} {rs rs' : List RF} {s : ByteArray} {bs : Bs} {o : Obj}
    (hW : RefW w S gr vv rs) (hk : k < rs.length) (hnm : ByteArray.mk ⟨(rs.getD k rfZ).name⟩ = s) (hsy : (rs.getD k rfZ).synced = z) (hbs : (rs.getD k rfZ).bytes = bs) (hfit : nameOk (rs.getD k rfZ).name = true ∧ z ≤ bs.length ∧ bs.length ≤ 1048576)
    (hW4 : RefW w4 (fun k => w.heap.size ≤ k ∧ k < wr.heap.size) w.heap.size v' rs') (hkey : rs'.map keyR = (rs.take k).map keyR) (hg4 : w.grownBy w4 none) (hb4 : Rb w4 (fun k => wr.heap.size < k ∧ k < w2.heap.size) vb bs) (hz4 : w4.heap.size = w2.heap.size) (hw : w.heap.size ≤ wr.heap.size) (_hwr : wr.heap.size ≤ w4.heap.size)
    (ho5 : w5.ownsRow 0 56 3 v5 (rs'.length + 1) (rff rs' ++ [.string s, vb, .int .i64 (z : Int)])) (hf5 : Fr ((w4.alloc o).drew) w5 v' v5) :
    ∃ v' rs', RefW (w5.setCell ⟨w.heap.size, 0, none⟩ v5) (fun k => w.heap.size ≤ k ∧ k < (w5.setCell ⟨w.heap.size, 0, none⟩ v5).heap.size) w.heap.size v' rs' ∧ rs'.map keyR = (rs.take (k + 1)).map keyR ∧ w.grownBy (w5.setCell ⟨w.heap.size, 0, none⟩ v5) none := by
  have hga : w4.grownBy ((w4.alloc o).drew) none := gb_none (World.grownBy_alloc _ _ none) (gb_drew _ none)
  have hsa : ((w4.alloc o).drew).heap.size = w4.heap.size + 1 := by simp
  have hs5 := hf5.1.size
  have hs6 : (w5.setCell ⟨w.heap.size, 0, none⟩ v5).heap.size = w5.heap.size := by simp [World.setCell]
  have hvb : ∀ b, v'.ownBlock = some b → w.heap.size ≤ b ∧ b < wr.heap.size := fun b hb => hW4.inR b hb
  have h45 : ∀ b, b < w4.heap.size → v'.ownBlock ≠ some b → w5.heap[b]? = w4.heap[b]? := fun b hb hne => by
    rw [hf5.1.block b (by omega) (fun e => hne e.symm)]
    exact hga.block b hb (by simp)
  have hgcl := some_lt hW4.box
  have hbox5 : w5.heap[w.heap.size]? = some (.cells #[v'] 28) := (h45 _ hgcl hW4.ne_row).trans hW4.box
  have h5b : ∀ b, v5.ownBlock = some b → w.heap.size < b ∧ b < w5.heap.size := fun b hb => by
    refine ⟨?_, (ho5.lt b hb).2⟩
    rcases hf5.2 b hb with h | h
    · have h1 := hvb b h.symm
      have h2 : b ≠ w.heap.size := fun e => hW4.ne_row (by rw [← h, e])
      omega
    · omega
  have hsame : ∀ (b : Nat) (cur : Array Value) (fr : Nat × Nat), w4.heap[b]? = some (Obj.cells cur 5 fr) → (w5.setCell ⟨w.heap.size, 0, none⟩ v5).heap[b]? = w4.heap[b]? := fun b cur fr hb => by
    have n1 : b ≠ w.heap.size := fun e => by rw [e, hW4.box] at hb; simp at hb
    have n2 : v'.ownBlock ≠ some b := fun e => by
      obtain ⟨cur', hc⟩ := hW4.row_obj e
      rw [hc] at hb
      simp at hb
    rw [Below.heap_setCell _ _ _ _ n1]
    exact h45 b (some_lt hb) n2
  have hr' : rff (rs' ++ [⟨(rs.getD k rfZ).name, vb, bs, z⟩]) = rff rs' ++ [.string s, vb, .int .i64 (z : Int)] := by
    rw [rff_append, ← hnm]
    rfl
  have hlen : rs'.length = k := by
    have := congrArg List.length hkey
    simp at this
    omega
  have hnames : ∀ q ∈ rs', q.name < (rs.getD k rfZ).name := fun q hq => by
    have : keyR q ∈ (rs.take k).map keyR := by rw [← hkey]; exact List.mem_map_of_mem hq
    obtain ⟨q', hq', e⟩ := List.mem_map.1 this
    have en : q'.name = q.name := congrArg Prod.fst e
    obtain ⟨j, hj, rfl⟩ := List.mem_iff_getElem.1 hq'
    have hjk : j < k := by rw [List.length_take] at hj; omega
    have hp := List.pairwise_iff_getElem.1 hW.srt j k (by omega) hk hjk
    rw [← en]
    simpa [hk] using hp
  refine ⟨v5, rs' ++ [⟨(rs.getD k rfZ).name, vb, bs, z⟩], hW4.snoc ?_ ?_ (fun b _ hb => ⟨hb.1, by omega⟩) (fun b hb => ⟨by have := (h5b b hb).1; omega, by have := (h5b b hb).2; omega⟩) hsame ?_ hfit hnames (by have := hW.most; omega), ?_, ?_⟩
  · simp [World.setCell, Array.getElem?_modify, hbox5]
  · rw [hr', List.length_append]
    exact row_via ho5 (fun b hb => Below.heap_setCell _ _ _ _ (fun e => by have e' : b = w.heap.size := e; have := (h5b b hb).1; omega))
  · refine ⟨?_, fun b hb => ?_⟩
    · obtain ⟨a, c, hv, x1, x2, x3, x4⟩ := hb4.1
      refine ⟨a, c, hv, x1, x2, fun j hj => ?_, x4⟩
      obtain ⟨b, o', hbo, hc⟩ := x3 j hj
      refine ⟨b, o', hbo, ?_⟩
      rw [← hc]
      obtain ⟨_, cur, fr, h2⟩ := hb4.2 b (by rw [hv, hbo]; rfl)
      exact World.cell?_of_block (a := ⟨b, o' + j, none⟩) (hsame b cur fr h2)
    · obtain ⟨h1, cur, fr, h2⟩ := hb4.2 b hb
      exact ⟨⟨by omega, by omega⟩, cur, fr, by rw [hsame b cur fr h2]; exact h2⟩
  · have e : rs.take (k + 1) = rs.take k ++ [rs.getD k rfZ] := by
      rw [List.take_succ_eq_append_getElem hk]
      simp [hk]
    rw [e, List.map_append, List.map_append, hkey]
    simp only [List.map_cons, List.map_nil, keyR, hsy, hbs]
  · have hg5 : w.grownBy w5 none := gb_new (gb_none hg4 hga) hf5.1 (fun b hb => (hvb b hb).1)
    exact gb_new hg5 (gb_set0 w5 w.heap.size 0 v5) (fun b hb => by cases hb; exact Nat.le_refl _)

theorem step_app {w : World} {ops : Array Oper} {o : Oper} {a : Act} {K : Act → World → Prop} {Q : Exit → Act → World → Prop} {E : Prop} (hgd : o.guard = none) (s x : Operand)
    (ho : o.op = .call { callee := .builtin .append, args := #[s, x], argTypes := #[31, 31] })
    (xv : Value) (l : Bs) (hs : a.eval s = .slice none 0 0) (hx : a.eval x = xv) (hr : Rd w xv l) (hsz : l.length ≤ 1048576)
    (h : ∀ a1 c1 w', Own w' w.heap.size (.slice a1 l.length c1) l → w.grownBy w' none → K (a.put o.dst (.slice a1 l.length c1)) w') :
    if Region.wanted o (yielded ops a.tmps) = true then Oper.wp Try.prog o a w K Q else E := by
  have hw : Region.wanted o (yielded ops a.tmps) = true := by simp [Region.wanted, hgd]
  rw [if_pos hw]
  obtain ⟨v', w', hrun, h2, h3⟩ := run_app w o.type w.heap.size (.slice none 0 0) [] (Own.nil _ _) xv l hr (by simp; omega) (Nat.le_refl _)
  rw [List.nil_append] at h2
  obtain ⟨a1, c1, rfl⟩ := h2.shape
  unfold Oper.wp execOp
  simp only [ho, resolve, invoke, builtin, Sem.run_bind, Sem.run_pure, Result.andThen_ok, List.map_toArray, List.map_cons, List.map_nil, hs, hx, hrun]
  exact h a1 c1 w' h2 h3.1
theorem step_appF {w : World} {ops : Array Oper} {o : Oper} {a : Act} {K : Act → World → Prop} {Q : Exit → Act → World → Prop} {E : Prop} (hgd : o.guard = none) (s x : Operand)
    (ho : o.op = .call { callee := .builtin .append, args := #[s, x], argTypes := #[26, 26] })
    (v : Value) (n : Nat) (xs : List Value) (ad : Addr) (news : List Value) (hs : a.eval s = v) (hx : a.eval x = .slice (some ad) 1 1) (hown : w.ownsRow 0 56 3 v n xs) (hl : news.length = 3) (hra : RdC w (some ad) news) (h1 : ∀ u ∈ news, u.oneCell' = true) (hsz : n ≤ 256)
    (h : ∀ a1 n1 c1 w', w'.ownsRow 0 56 3 (.slice a1 n1 c1) (n + 1) (xs ++ news) → Fr w w' v (.slice a1 n1 c1) → K (a.put o.dst (.slice a1 n1 c1)) w') :
    if Region.wanted o (yielded ops a.tmps) = true then Oper.wp Try.prog o a w K Q else E := by
  have hw : Region.wanted o (yielded ops a.tmps) = true := by simp [Region.wanted, hgd]
  rw [if_pos hw]
  obtain ⟨i0, hi, hz0, hz1, hz2⟩ := info_parts infoF
  obtain ⟨v', w', hrun, h2, h3⟩ := run_appG w o.type 26 56 i0 _ 3 48 0 Try.underlying26 hi hz0 hz1 hz2 rfl (by decide) (by decide) v n xs hown (some ad) 1 1 news hl hra (fun h => by cases h) h1 (by omega) (Nat.zero_le _)
  obtain ⟨a1, n1, c1, rfl⟩ : ∃ a n c, v' = .slice a n c := by
    rcases h2.2 with ⟨h, _⟩ | ⟨_, _, _, h, _⟩
    · exact ⟨_, _, _, h⟩
    · exact ⟨_, _, _, h⟩
  unfold Oper.wp execOp
  simp only [ho, resolve, invoke, builtin, Sem.run_bind, Sem.run_pure, Result.andThen_ok, List.map_toArray, List.map_cons, List.map_nil, hs, hx, hrun]
  exact h a1 n1 c1 w' h2 h3
theorem lit3 (w : World) (x y u : Value) : RdC ((w.alloc (.cells #[x, y, u] 56)).drew) (some ⟨w.heap.size, 0, none⟩) [x, y, u] := by
  intro j v hj
  refine ⟨_, rfl, ?_⟩
  rw [Go.WideShapes.add_plain]
  have ha : ((w.alloc (.cells #[x, y, u] 56)).drew).heap[w.heap.size]? = _ := alloc_at w (.cells #[x, y, u] 56)
  simp only [World.cell?, ha]
  simpa using hj
theorem blk_oneR (w : World) (o : Obj) : ((w.alloc o).drew).heap[w.heap.size]? = some o := alloc_at w o
set_option maxRecDepth 8000 in
set_option maxHeartbeats 3200000 in
theorem refCopy_any (w : World) (S : Nat → Prop) (gr : Nat) (v : Value) (rs : List RF) (h : RefW w S gr v rs) :
    Calls Try.prog 11 #[.pointer (some ⟨gr, 0, none⟩)] w fun e w' => ∃ gc, e = .returned (.pointer (some ⟨gc, 0, none⟩)) ∧ Hid (∃ v' rs', RefW w' (fun k => w.heap.size ≤ k ∧ k < w'.heap.size) gc v' rs' ∧ rs'.map keyR = rs.map keyR ∧ w.grownBy w' none) := by
  have HW : Hid (RefW w S gr v rs) := h
  obtain ⟨i0, hi, hz0, hz1, hz2⟩ := info_parts infoF
  have HBox : Hid (w.cell? ⟨gr, 0, none⟩ = some v) := by show w.cell? ⟨gr, 0, none⟩ = _; simp [World.cell?, h.box]
  obtain ⟨a, c, rfl, hc1, hc2⟩ := h.shape
  have hm := h.most
  clear h hc1 hc2
  generalize hL : rs.length = L at *
  have HL : Hid (rs.length = L) := hL
  clear hL
  have H0 : Hid (∃ v' rs', RefW (w.alloc (.cells #[.slice none 0 0] 28)) (fun k => w.heap.size ≤ k ∧ k < (w.alloc (.cells #[.slice none 0 0] 28)).heap.size) w.heap.size v' rs' ∧ rs'.map keyR = (rs.take 0).map keyR ∧ w.grownBy (w.alloc (.cells #[.slice none 0 0] 28)) none) :=
    ⟨.slice none 0 0, [], ⟨alloc_at _ _, World.ownsRow_nil _ _ _ _, ⟨Nat.le_refl _, by simp⟩, fun k hk => (by simp [Value.ownBlock] at hk), fun r hr => (by cases hr), fun r hr => (by cases hr), List.Pairwise.nil, by simp⟩, rfl, World.grownBy_alloc _ _ none⟩
  go_enter Try.func11, Try.ntmps11
  go_wp2
  go_loopw [4, 5] (fun i _ wr => ∃ k : Nat, k ≤ L ∧ i = .int .i64 (k : Int) ∧ Hid (∃ v' rs', RefW wr (fun k => w.heap.size ≤ k ∧ k < wr.heap.size) w.heap.size v' rs' ∧ rs'.map keyR = (rs.take k).map keyR ∧ w.grownBy wr none)) (fun i _ _ => L - (intOf i).toNat)
  case atStart => exact ⟨0, by omega, rfl, H0.out⟩
  case round =>
    obtain ⟨k, hk, rfl, HK⟩ := hrel
    obtain ⟨v', rs', hW', hkey, hg⟩ := HK.out
    have hbx : wr.cell? ⟨gr, 0, none⟩ = some (.slice a L c) := cell_keep HBox.out hg
    by_cases hkl : k < L
    · have hkl2 : (k : Int) < (L : Int) := by omega
      have hk' : k < rs.length := by rw [HL.out]; exact hkl
      obtain ⟨g, cap, hv, hcp, hcm, hcells⟩ := HW.out.cells (by intro e; rw [e] at hk'; simp at hk')
      have hv2 : a = some ⟨g, 0, none⟩ := by simp at hv; exact hv.1
      subst hv2
      obtain ⟨c0, c1, c2⟩ := hcells k hk'
      obtain ⟨va, vc, hval⟩ : ∃ a1 d1, (rs.getD k rfZ).val = .slice a1 (rs.getD k rfZ).bytes.length d1 := by obtain ⟨⟨a, c, e, _⟩, _⟩ := HW.out.each _ (getD_mem hk'); exact ⟨a, c, e⟩
      have hrd := (HW.out.each _ (getD_mem hk')).1
      have hfit := HW.out.fits _ (getD_mem hk')
      rw [hval] at c1 hrd
      have k0 := cell_keep c0 hg
      have k1 := cell_keep c1 hg
      have k2 := cell_keep c2 hg
      have j0 : ∀ o, (wr.alloc o).cell? ⟨gr, 0, none⟩ = _ := fun o => cell_keep hbx (World.grownBy_alloc _ _ none)
      have j1 : ∀ o, (wr.alloc o).cell? ⟨g, k * 3 + 1, none⟩ = _ := fun o => cell_keep k1 (World.grownBy_alloc _ _ none)
      have HRd : Hid (∀ o, Rd ((wr.alloc o).drew) (.slice va (rs.getD k rfZ).bytes.length vc) (rs.getD k rfZ).bytes) := fun o => ((hrd.keep hg).keep (World.grownBy_alloc _ _ none)).keep (gb_drew _ none)
      have HS := hid_mk' (And.intro hW' (And.intro hkey (And.intro hg hfit)))
      have HRk := hid_mk' hk'
      have hwz := hg.size
      have HWz := hid_mk' hwz
      clear hcells hv hcp hcm c0 c1 c2 hval hrd hW' hkey hg HK hfit hk'
      generalize hnm : ByteArray.mk ⟨(rs.getD k rfZ).name⟩ = s at *
      have HNm := hid_mk' hnm
      generalize hsy : (rs.getD k rfZ).synced = z at *
      have HSy := hid_mk' hsy
      generalize hbl : (rs.getD k rfZ).bytes = bs at *
      have HBs := hid_mk' hbl
      have HBL : Hid (bs.length ≤ 1048576) := HS.out.2.2.2.2.2
      have HFit := hid_mk' HS.out.2.2.2
      clear hwz
      clear hnm hsy hbl
      go_wp2_with fail
      go_region_law (refine step_app rfl (.tmp 26) (.tmp 34) rfl (.slice va bs.length vc) bs (by simp [Act.eval]) (by simp [Act.eval]) (HRd.out _) HBL.out ?_; intro a1 c1 w2 ho2 hg2; have hb2 : w2.heap[wr.heap.size]? = some (.cells #[.string s, .slice none 0 0, .int .i64 (z : Int)] 56) := (hg2.block wr.heap.size (by simp) (by simp)).trans (blk_oneR _ _); have d1 : w2.cell? ⟨wr.heap.size, 1, none⟩ = some (.slice none 0 0) := (by simp [World.cell?, hb2]); have f1 : w2.frozen? ⟨wr.heap.size, 1, none⟩ = false := (by simp [World.frozen?, hb2]); have H2 := hid_mk' (And.intro ho2 (And.intro hg2 hb2)); clear ho2 hg2 hb2)
      all_goals
        have HX : Hid (∃ v' rs', RefW (w2.setCell ⟨wr.heap.size, 1, none⟩ (.slice a1 bs.length c1)) (fun k => w.heap.size ≤ k ∧ k < wr.heap.size) w.heap.size v' rs' ∧ rs'.map keyR = (rs.take k).map keyR ∧ w.grownBy (w2.setCell ⟨wr.heap.size, 1, none⟩ (.slice a1 bs.length c1)) none ∧ Rb (w2.setCell ⟨wr.heap.size, 1, none⟩ (.slice a1 bs.length c1)) (fun k => wr.heap.size < k ∧ k < w2.heap.size) (.slice a1 bs.length c1) bs ∧ (w2.setCell ⟨wr.heap.size, 1, none⟩ (.slice a1 bs.length c1)).heap[wr.heap.size]? = some (.cells #[.string s, .slice a1 bs.length c1, .int .i64 (z : Int)] 56) ∧ (w2.setCell ⟨wr.heap.size, 1, none⟩ (.slice a1 bs.length c1)).heap.size = w2.heap.size ∧ wr.heap.size ≤ w2.heap.size) := by
          obtain ⟨h1, h2, h3, -⟩ := HS.out
          obtain ⟨o1, g1, b1⟩ := H2.out
          have hgw : wr.grownBy w2 none := gb_none (gb_none (World.grownBy_alloc _ _ none) (gb_drew _ none)) g1
          have hch : Ch wr (w2.setCell ⟨wr.heap.size, 1, none⟩ (.slice a1 bs.length c1)) (fun k => k = wr.heap.size) := (Ch.of_gb (S := fun k => k = wr.heap.size) hgw (fun k hk => by cases hk)).trans (Ch.of_gb (gb_set0 w2 wr.heap.size 1 _) (fun k hk _ => by cases hk; rfl)) (fun _ _ h => h)
          have hz : ((wr.alloc (.cells #[.string s, .slice none 0 0, .int .i64 (z : Int)] 56)).drew).heap.size = wr.heap.size + 1 := by simp
          have hown : ∀ b, (Value.slice a1 bs.length c1).ownBlock = some b → wr.heap.size < b ∧ b < w2.heap.size := fun b hb => ⟨by have := (o1.lt b hb).1; omega, (o1.lt b hb).2⟩
          refine ⟨_, _, h1.frame hch (fun k hk _ e => by omega), h2, ?_, ?_, three_set1 _ _ _ _ _ _ _ b1, by simp [World.setCell], hgw.size⟩
          · exact gb_new (gb_none h3 hgw) (gb_set0 w2 wr.heap.size 1 _) (fun b hb => by cases hb; exact h3.size)
          · have := o1.rb (S := fun k => wr.heap.size < k ∧ k < w2.heap.size) hown
            refine this.frame (T := fun k => k = wr.heap.size) (Ch.of_gb (gb_set0 w2 wr.heap.size 1 _) (fun k hk _ => by cases hk; rfl)) (fun b _ hb e => by omega)
        clear H2 d1 f1 HS
        generalize hX : w2.setCell ⟨wr.heap.size, 1, none⟩ (.slice a1 bs.length c1) = w4 at *
        clear hX
        obtain ⟨v', rs', hW4, hkey, hg4, hb4, hf4, hz4, hz5⟩ := HX.out
        obtain ⟨a', c', rfl, -, -⟩ := hW4.shape
        have e0 : w4.cell? ⟨wr.heap.size, 0, none⟩ = some (.string s) := by simp [World.cell?, hf4]
        have e1 : w4.cell? ⟨wr.heap.size, 1, none⟩ = some (.slice a1 bs.length c1) := by simp [World.cell?, hf4]
        have e2 : w4.cell? ⟨wr.heap.size, 2, none⟩ = some (.int .i64 (z : Int)) := by simp [World.cell?, hf4]
        have ec : w4.cell? ⟨w.heap.size, 0, none⟩ = some (.slice a' rs'.length c') := by simp [World.cell?, hW4.box]
        have HY := hid_mk' (And.intro hW4 (And.intro hkey (And.intro hg4 (And.intro hb4 (And.intro hz4 hz5)))))
        have ec' : ∀ o, (w4.alloc o).cell? ⟨w.heap.size, 0, none⟩ = some (.slice a' rs'.length c') := fun o => cell_keep ec (World.grownBy_alloc _ _ none)
        clear hW4 hkey hg4 hb4 hf4 hz4 HX hz5
        go_wp2_with fail
        go_region_law (refine step_appF rfl (.tmp 41) (.tmp 43) rfl (.slice a' rs'.length c') rs'.length (rff rs') ⟨w4.heap.size, 0, none⟩ [.string s, .slice a1 bs.length c1, .int .i64 (z : Int)] (by simp [Act.eval]) (by simp [Act.eval]) (row_via (World.ownsRow.alloc HY.out.1.row (.cells #[.string s, .slice a1 bs.length c1, .int .i64 (z : Int)] 56)) (fun _ _ => rfl)) rfl (lit3 _ _ _ _) (by intro u hu; simp only [List.mem_cons, List.not_mem_nil, or_false] at hu; rcases hu with rfl | rfl | rfl <;> rfl) HY.out.1.most ?_; intro a5 n5 c5 w5 ho5 hf5; have hb5 := (hf5.1.block w.heap.size (by have := some_lt HY.out.1.box; simp; omega) (fun e => HY.out.1.ne_row e.symm)).trans (((gb_none (World.grownBy_alloc w4 _ none) (gb_drew _ none)).block w.heap.size (some_lt HY.out.1.box) (by simp)).trans HY.out.1.box); have d0 : w5.cell? ⟨w.heap.size, 0, none⟩ = some (.slice a' rs'.length c') := (by simp [World.cell?, hb5]); have df : w5.frozen? ⟨w.heap.size, 0, none⟩ = false := (by simp [World.frozen?, hb5]); have H6 := hid_mk' (copyR_end HW.out HRk.out HNm.out HSy.out HBs.out HFit.out HY.out.1 HY.out.2.1 HY.out.2.2.1 HY.out.2.2.2.1 HY.out.2.2.2.2.1 HWz.out (by have := HY.out.2.2.2.2; omega) ho5 hf5); clear ho5 hf5 hb5)
      all_goals (try go_wp2)
      all_goals go_roundw
      all_goals first | exact ⟨k + 1, by omega, by go_num, H6⟩ | (simp [intOf]; omega)
    · have hkl2 : ¬ (k : Int) < (L : Int) := by omega
      have HF : Hid (rs.take k = rs) := by show rs.take k = rs; exact List.take_of_length_le (by rw [HL.out]; omega)
      clear hW' hkey hg
      go_wp2
      go_ret
      refine ⟨_, rfl, ?_⟩
      have := HK.out
      rw [HF.out] at this
      exact this
/-- COPY -/
theorem refCopy_ok (w : World) (S : Nat → Prop) (gr N : Nat) (M : Fls) (h : RefOK w S gr M N) :
    Calls Try.prog 11 #[.pointer (some ⟨gr, 0, none⟩)] w fun e w' => ∃ gc, e = .returned (.pointer (some ⟨gc, 0, none⟩)) ∧ RefOK w' (fun k => w.heap.size ≤ k ∧ k < w'.heap.size) gc M N ∧ w.grownBy w' none := by
  obtain ⟨v, rs, hW, hM, rfl⟩ := h
  refine (refCopy_any w S gr v rs hW).mono ?_
  rintro e w' ⟨gc, he, v', rs', h1, h2, h3⟩
  refine ⟨gc, he, ⟨v', rs', h1, fun l => by rw [hM, lkR_key h2], ?_⟩, h3⟩
  have := congrArg List.length h2
  simpa using this
end Go.Proofs.Ytgafmplmngbbfaa
