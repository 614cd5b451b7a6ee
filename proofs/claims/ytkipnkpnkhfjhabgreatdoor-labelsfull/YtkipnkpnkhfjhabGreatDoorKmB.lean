/-
  LbJm, LbJf, LbJa, in one text.
-/
import Derived.Test.YtkipnkpnkhfjhabGreatDoorKmA
import Derived.Test.YtkipnkpnkhfjhabGreatDoorLbHs
import Derived.Maps.OwnSet
import Derived.Maps.OwnOps
import Derived.Maps.Ext
import Derived.Test.YtkipnkpnkhfjhabGreatDoorLbK
import Derived.Deep.RegionHeld3
/- LbJm -/
namespace Go.Proofs.YtkipnkpnkhfjhabGreatDoor
open Go.RowKit Go.Maps Go.WideMaps

/-- how a slice of a whole block reads among a map's elements -/
def slD : Value → DataW Unit
  | .slice (some ⟨b, 0, none⟩) n c => .agg [.lit (.int .i64 (b : Int)), .lit (.int .i64 (n : Int)), .lit (.int .i64 (c : Int))]
  | _ => .nil
def slElem (v : Value) : Option (DataW Unit × List MemPlace) :=
  match v with
  | .slice none 0 0 => some (.nil, [])
  | .slice (some ⟨b, 0, none⟩) n c => some (.agg [.lit (.int .i64 (b : Int)), .lit (.int .i64 (n : Int)), .lit (.int .i64 (c : Int))], [])
  | _ => none
def Shp (v : Value) : Prop := v = .slice none 0 0 ∨ ∃ b n c, v = .slice (some ⟨b, 0, none⟩) n c
theorem Shp.elem {v : Value} (h : Shp v) : slElem v = some (slD v, []) := by
  rcases h with rfl | ⟨b, n, c, rfl⟩ <;> rfl
theorem Shp.inv {u v : Value} (hv : Shp v) {ps : List MemPlace} (h : slElem u = some (slD v, ps)) : u = v := by
  rcases hv with rfl | ⟨b, n, c, rfl⟩
  · unfold slElem at h
    split at h
    · rfl
    · simp [slD] at h
    · cases h
  · unfold slElem at h
    split at h
    · simp [slD] at h
    · rename_i b' n' c'
      simp [slD] at h
      obtain ⟨⟨h1, h2, h3⟩, -⟩ := h
      have e1 : b' = b := by omega
      have e2 : n' = n := by omega
      have e3 : c' = c := by omega
      rw [e1, e2, e3]
    · cases h
theorem row_shp {w : World} {E : TypeId} {size base n : Nat} {v : Value} {xs : List Value} (h : w.ownsRow base E size v n xs) : Shp v := by
  rcases h.2 with ⟨rfl, _⟩ | ⟨g, cap, cur, rfl, _⟩
  · exact .inl rfl
  · exact .inr ⟨g, n, cap, rfl⟩
theorem keyI : Keyed Tryz.prog 3 := int_keyed Tryz.underlying3
theorem keyU : Keyed Tryz.prog 64 := int_keyed Tryz.underlying64
theorem zeroSL (w : World) : (zeroValue 29).run Tryz.prog w = .ok (.slice none 0 0) w := by kernel_rfl
theorem zeroSI (w : World) : (zeroValue 71).run Tryz.prog w = .ok (.slice none 0 0) w := by kernel_rfl
theorem keyIn (n : Int) (h : -9223372036854775808 ≤ n) (h2 : n ≤ 9223372036854775807) : keyOf Tryz.prog 3 (.int .i64 n) = some (.int .i64 n) := keyOf_int_mk Tryz.underlying3 (by simp [Lit.wf, IntKind.min, IntKind.max, IntKind.signed, IntKind.bits]; omega)
theorem keyUn (x : BitVec 64) : keyOf Tryz.prog 64 (.int .u64 (I64 x)) = some (.int .u64 (I64 x)) := keyOf_int_mk Tryz.underlying64 (by
  have h1 := I64_nonneg x
  have h2 := I64_lt x
  simp [Lit.wf, IntKind.min, IntKind.max, IntKind.signed, IntKind.bits]
  omega)
theorem I64_inj {x y : BitVec 64} (h : I64 x = I64 y) : x = y := by
  unfold I64 at h
  exact BitVec.eq_of_toNat_eq (by omega)
theorem litU_ne {x y : BitVec 64} (h : x ≠ y) : Lit.int .u64 (I64 x) ≠ Lit.int .u64 (I64 y) := fun e => h (by injection e with _ e; exact I64_inj e)
theorem litI_ne {x y : Int} (h : x ≠ y) : Lit.int .i64 x ≠ Lit.int .i64 y := fun e => h (by injection e)

/-- the sets that have a hash; their numbers -/
def hs (ls : List LbT) : BitVec 64 := hashB fnv0 ls
def ofH (rs : List IdR) (x : BitVec 64) : List IdR := rs.filter (fun r => decide (hs r.lbs = x))
def idsOf (rs : List IdR) (x : BitVec 64) : List Value := (ofH rs x).map (fun r => Value.int .i64 (r.num : Int))
theorem idsOf_len (rs : List IdR) (x : BitVec 64) : (idsOf rs x).length = (ofH rs x).length := by simp [idsOf]
theorem numI_ofH (rs : List IdR) (ls : List LbT) : numI (ofH rs (hs ls)) ls = numI rs ls := by
  unfold numI ofH
  rw [List.find?_filter]
  have e : (fun r : IdR => decide (decide (hs r.lbs = hs ls) = true ∧ decide (r.lbs = ls) = true)) = (fun r => decide (r.lbs = ls)) := by
    funext r
    by_cases h : r.lbs = ls
    · simp [h]
    · simp [h]
  first | rw [e] | (congr 1; funext r; by_cases h : r.lbs = ls <;> simp [h])

/-- THE PROJECT's NUMBERING: its box gx, its maps gs and gh, which read as Ds and Dh; the rows of numbers hv; all in blocks of S -/
structure PrjI (w : World) (S : Nat → Prop) (gx : Nat) (rs : List IdR) (last gs gh : Nat) (Ds Dh : DataW Unit) (hv : BitVec 64 → Value) : Prop where
  box : w.heap[gx]? = some (.cells #[.map (some gs), .map (some gh), .int .i64 (last : Int)] 51)
  sets : w.ownsMap Tryz.prog 3 slElem gs last Ds
  hash : w.ownsMap Tryz.prog 64 slElem gh last Dh
  size : Maps.size Ds = rs.length
  hasS : ∀ n : Int, Maps.has Ds (.int .i64 n) = rs.any (fun r => decide ((r.num : Int) = n))
  atS : ∀ r ∈ rs, Ds.atKey (.int .i64 (r.num : Int)) .nil = slD r.val
  shp : ∀ r ∈ rs, Shp r.val
  each : ∀ r ∈ rs, Rl w S r.val r.lbs
  hasH : ∀ x, Maps.has Dh (.int .u64 (I64 x)) = !(ofH rs x).isEmpty
  atH : ∀ x, ofH rs x ≠ [] → Dh.atKey (.int .u64 (I64 x)) .nil = slD (hv x)
  rows : ∀ x, ofH rs x ≠ [] → w.ownsRow 0 3 1 (hv x) (ofH rs x).length (idsOf rs x)
  inX : S gx
  inS : S gs
  inH : S gh
  inR : ∀ x, ofH rs x ≠ [] → ∀ k, (hv x).ownBlock = some k → S k
  apart : ∀ x y, ofH rs x ≠ [] → ofH rs y ≠ [] → x ≠ y → ∀ k, (hv x).ownBlock = some k → (hv y).ownBlock ≠ some k
  gsh : gs ≠ gh
  rise : rs.Pairwise (fun a b => a.num < b.num)
  upto : ∀ r ∈ rs, 0 < r.num ∧ r.num ≤ last
  most : rs.length ≤ 1000
  lastB : last ≤ 1000000000000000000

theorem mapI_obj {w : World} {k : TypeId} {gm n : Nat} {D : DataW Unit} (h : w.ownsMap Tryz.prog k slElem gm n D) : ∃ es clock, w.heap[gm]? = some (.map es clock) := by
  obtain ⟨es, clock, hb, _⟩ := h
  exact ⟨es, clock, hb⟩
theorem mapI_via {w w' : World} {k : TypeId} {gm n : Nat} {D : DataW Unit} (h : w.ownsMap Tryz.prog k slElem gm n D) (hb : w'.heap[gm]? = w.heap[gm]?) : w'.ownsMap Tryz.prog k slElem gm n D := by
  obtain ⟨es, clock, hb', r⟩ := h
  exact ⟨es, clock, hb.trans hb', r⟩
theorem PrjI.frame {w w' : World} {S T : Nat → Prop} {gx last gs gh : Nat} {rs : List IdR} {Ds Dh : DataW Unit} {hv : BitVec 64 → Value} (h : PrjI w S gx rs last gs gh Ds Dh hv) (hc : Ch w w' T) (hT : ∀ k, k < w.heap.size → S k → ¬ T k) : PrjI w' S gx rs last gs gh Ds Dh hv :=
  { h with
    box := by rw [hc.block (some_lt h.box) (hT _ (some_lt h.box) h.inX)]; exact h.box
    sets := mapI_via h.sets (hc.block h.sets.lt (hT _ h.sets.lt h.inS))
    hash := mapI_via h.hash (hc.block h.hash.lt (hT _ h.hash.lt h.inH))
    each := fun r hr => (h.each r hr).frame hc hT
    rows := fun x hx => row_via (h.rows x hx) (fun k hk => hc.block ((h.rows x hx).lt k hk).2 (hT _ ((h.rows x hx).lt k hk).2 (h.inR x hx k hk))) }
theorem PrjI.keep {w w' : World} {S : Nat → Prop} {gx last gs gh : Nat} {rs : List IdR} {Ds Dh : DataW Unit} {hv : BitVec 64 → Value} (h : PrjI w S gx rs last gs gh Ds Dh hv) (hg : w.grownBy w' none) : PrjI w' S gx rs last gs gh Ds Dh hv :=
  h.frame (T := fun _ => False) (Ch.of_gb hg (fun k hk => by cases hk)) (fun _ _ _ => id)
theorem PrjI.mono {w : World} {S T : Nat → Prop} {gx last gs gh : Nat} {rs : List IdR} {Ds Dh : DataW Unit} {hv : BitVec 64 → Value} (h : PrjI w S gx rs last gs gh Ds Dh hv) (hT : ∀ k, k < w.heap.size → S k → T k) : PrjI w T gx rs last gs gh Ds Dh hv :=
  { h with
    inX := hT _ (some_lt h.box) h.inX
    inS := hT _ h.sets.lt h.inS
    inH := hT _ h.hash.lt h.inH
    inR := fun x hx k hk => hT _ ((h.rows x hx).lt k hk).2 (h.inR x hx k hk)
    each := fun r hr => (h.each r hr).mono hT }
theorem PrjI.cells {w : World} {S : Nat → Prop} {gx last gs gh : Nat} {rs : List IdR} {Ds Dh : DataW Unit} {hv : BitVec 64 → Value} (h : PrjI w S gx rs last gs gh Ds Dh hv) : w.cell? ⟨gx, 0, none⟩ = some (.map (some gs)) ∧ w.cell? ⟨gx, 1, none⟩ = some (.map (some gh)) ∧ w.cell? ⟨gx, 2, none⟩ = some (.int .i64 (last : Int)) ∧ w.frozen? ⟨gx, 2, none⟩ = false := by
  have hb := h.box
  exact ⟨by simp [World.cell?, hb], by simp [World.cell?, hb], by simp [World.cell?, hb], by simp [World.frozen?, hb]⟩
/-- the row of a hash's numbers, as the map tells it -/
def rowH (rs : List IdR) (hv : BitVec 64 → Value) (x : BitVec 64) : Value := if ofH rs x = [] then .slice none 0 0 else hv x
theorem PrjI.lookH {w : World} {S : Nat → Prop} {gx last gs gh : Nat} {rs : List IdR} {Ds Dh : DataW Unit} {hv : BitVec 64 → Value} (h : PrjI w S gx rs last gs gh Ds Dh hv) (x : BitVec 64) :
    (Instr.lookup 49 (.map (some gh)) (.int .u64 (I64 x)) false).run Tryz.prog w = .ok (rowH rs hv x) w := by
  obtain ⟨v, ps, h1, h2⟩ := h.hash.lookup keyU Tryz.underlying49 (zeroSI w) (R := slElem) (zd := .nil) (zp := []) rfl (keyUn x)
  by_cases hx : ofH rs x = []
  · have hn : Maps.has Dh (.int .u64 (I64 x)) = false := by rw [h.hasH, hx]; rfl
    rw [atKey_of_not_has hn] at h2
    have : v = .slice none 0 0 := Shp.inv (v := .slice none 0 0) (.inl rfl) h2
    unfold rowH
    rw [if_pos hx, ← this]
    exact h1
  · rw [h.atH x hx] at h2
    have : v = hv x := Shp.inv (row_shp (h.rows x hx)) h2
    unfold rowH
    rw [if_neg hx, ← this]
    exact h1
theorem PrjI.lookS {w : World} {S : Nat → Prop} {gx last gs gh : Nat} {rs : List IdR} {Ds Dh : DataW Unit} {hv : BitVec 64 → Value} (h : PrjI w S gx rs last gs gh Ds Dh hv) {r : IdR} (hr : r ∈ rs) :
    (Instr.lookup 48 (.map (some gs)) (.int .i64 (r.num : Int)) false).run Tryz.prog w = .ok r.val w := by
  have hu := h.upto r hr
  have hb := h.lastB
  obtain ⟨v, ps, h1, h2⟩ := h.sets.lookup keyI Tryz.underlying48 (zeroSL w) (R := slElem) (zd := .nil) (zp := []) rfl (keyIn (r.num : Int) (by omega) (by omega))
  rw [h.atS r hr] at h2
  have : v = r.val := Shp.inv (h.shp r hr) h2
  rw [← this]
  exact h1
end Go.Proofs.YtkipnkpnkhfjhabGreatDoor

/- LbJf -/
namespace Go.Proofs.YtkipnkpnkhfjhabGreatDoor
open Go.RowKit Go.Maps Go.WideMaps

theorem hidJ {p : Prop} (h : p) : Hid p := h
theorem rowH_shape {w : World} {S : Nat → Prop} {gx last gs gh : Nat} {rs : List IdR} {Ds Dh : DataW Unit} {hv : BitVec 64 → Value} (h : PrjI w S gx rs last gs gh Ds Dh hv) (x : BitVec 64) :
    ∃ va vc, rowH rs hv x = .slice va (ofH rs x).length vc ∧ (0 < (ofH rs x).length → ∃ g, va = some ⟨g, 0, none⟩ ∧ ∀ W, w.grownBy W none → ∀ j, j < (ofH rs x).length → W.cell? ⟨g, j, none⟩ = some (.int .i64 (((ofH rs x).getD j idZ).num : Int))) := by
  unfold rowH
  by_cases hx : ofH rs x = []
  · rw [if_pos hx, hx]
    exact ⟨none, 0, rfl, fun h => by simp at h⟩
  · rw [if_neg hx]
    have hr := h.rows x hx
    rcases hr.2 with ⟨e, hn⟩ | ⟨g, cap, cur, e, hg, hh, hnc, hcm, hcs, ht⟩
    · exact absurd (List.eq_nil_of_length_eq_zero hn) hx
    · refine ⟨some ⟨g, 0, none⟩, cap, e, fun _ => ⟨g, rfl, fun W hW j hj => ?_⟩⟩
      have hk := h.keep hW
      have hr2 := hk.rows x hx
      rw [e] at hr2
      have := World.ownsRow.cellAt hr2 j (by omega)
      rw [this]
      unfold idsOf
      rw [List.getElem?_map]
      have hg2 : (ofH rs x)[j]? = some ((ofH rs x).getD j idZ) := by simp [List.getD, hj]
      rw [hg2]
      rfl
theorem numI_end {rs : List IdR} {ls : List LbT} (h : ∀ j, j < rs.length → (rs.getD j idZ).lbs ≠ ls) : numI rs ls = (0, false) := numI_none (fun q hq => by
  obtain ⟨j, hj, rfl⟩ := List.mem_iff_getElem.1 hq
  have := h j hj
  simpa [hj] using this)

set_option maxRecDepth 8000 in
set_option maxHeartbeats 6400000 in
theorem prjFind_any (w : World) (S : Nat → Prop) (gx last gs gh : Nat) (rs : List IdR) (Ds Dh : DataW Unit) (hv : BitVec 64 → Value) (u : Value) (ls : List LbT) (h : PrjI w S gx rs last gs gh Ds Dh hv) (hu : RdL w u ls) (hl : LbIn ls) :
    Calls Tryz.prog 15 #[.pointer (some ⟨gx, 0, none⟩), u] w fun e w' => e = .returned (.tuple #[.int .i64 (numI rs ls).1, .bool (numI rs ls).2]) ∧ w.grownBy w' none := by
  have HW : Hid (PrjI w S gx rs last gs gh Ds Dh hv ∧ RdL w u ls) := ⟨h, hu⟩
  obtain ⟨ua, uc, rfl⟩ : ∃ a c, u = .slice a ls.length c := by obtain ⟨a, c, h, _⟩ := hu; exact ⟨a, c, h⟩
  obtain ⟨va, vc, hrow, hcells⟩ := rowH_shape h (hs ls)
  have HFM : Hid (∀ r ∈ ofH rs (hs ls), r ∈ rs) := fun r hr => (List.mem_filter.1 hr).1
  have hn : (ofH rs (hs ls)).length ≤ 1000 := Nat.le_trans (List.length_filter_le _ _) h.most
  have HH : Hid (∀ W, w.grownBy W none → Calls Tryz.prog 28 #[.slice ua ls.length uc] W fun e w' => e = .returned (.int .u64 (I64 (hs ls))) ∧ w'.cell? ⟨gx, 1, none⟩ = some (.map (some gh)) ∧ (Instr.lookup 49 (.map (some gh)) (.int .u64 (I64 (hs ls))) false).run Tryz.prog w' = .ok (.slice va (ofH rs (hs ls)).length vc) w' ∧ (Instr.lookup 49 (.map (some gh)) (.int .u64 (I64 (hs ls))) false).run Tryz.prog w'.drew = .ok (.slice va (ofH rs (hs ls)).length vc) w'.drew ∧ Hid (w.grownBy w' none)) := fun W hW =>
    (hash_any W _ ls (HW.out.2.keep hW) hl).mono fun e w' ⟨h1, h2⟩ => by
      have hg := gb_none hW h2
      have hk := HW.out.1.keep hg
      have hk2 := HW.out.1.keep (gb_none hg (gb_drew _ none))
      exact ⟨h1, hk.cells.2.1, by rw [← hrow]; exact hk.lookH _, by rw [← hrow]; exact hk2.lookH _, hg⟩
  rw [← numI_ofH]
  have HN1 : Hid (∀ k, k < (ofH rs (hs ls)).length → ((ofH rs (hs ls)).getD k idZ).lbs = ls → (∀ j, j < k → ((ofH rs (hs ls)).getD j idZ).lbs ≠ ls) → numI (ofH rs (hs ls)) ls = ((((ofH rs (hs ls)).getD k idZ).num : Int), true)) := fun k hk he hno => numI_some hk he hno
  have HN0 : Hid ((∀ j, j < (ofH rs (hs ls)).length → ((ofH rs (hs ls)).getD j idZ).lbs ≠ ls) → numI (ofH rs (hs ls)) ls = (0, false)) := fun h => numI_end h
  have HCE : Hid (0 < (ofH rs (hs ls)).length → ∃ g, va = some ⟨g, 0, none⟩ ∧ ∀ W, w.grownBy W none → ∀ j, j < (ofH rs (hs ls)).length → W.cell? ⟨g, j, none⟩ = some (.int .i64 (((ofH rs (hs ls)).getD j idZ).num : Int))) := hcells
  generalize numI (ofH rs (hs ls)) ls = R at *
  generalize ofH rs (hs ls) = F at *
  generalize hs ls = x at *
  clear h hu hl hcells hrow
  generalize hL : F.length = L at *
  have HL : Hid (F.length = L) := hL
  clear hL
  have c1 := HW.out.1.cells.2.1
  go_enter Tryz.func15, Tryz.ntmps15
  go_wp2_with fail
  go_region_held3 (fun w' => w'.cell? ⟨gx, 1, none⟩ = some (.map (some gh))) (go_keep)
    (first | (go_at_call 28; with_reducible refine (HH.out _ ?_).mono ?_; (first | exact gb_refl _ _ | exact gb_drew _ none); rintro e w1 ⟨rfl, d1, lk1, lk2, H1⟩))
  clear lk1 lk2 HH c1
  go_wp2
  go_loopw [18] (fun i wr => ∃ k : Nat, k ≤ L ∧ i = .int .i64 (k : Int) ∧ Hid (w.grownBy wr none ∧ ∀ j, j < k → (F.getD j idZ).lbs ≠ ls)) (fun i _ => L - (intOf i).toNat)
  case atStart => exact ⟨0, by omega, rfl, H1.out, fun j hj => by omega⟩
  case round =>
    obtain ⟨k, hk, rfl, HR⟩ := hrel
    by_cases hkl : k < L
    · have hkl2 : (k : Int) < (L : Int) := by omega
      have hk' : k < F.length := by rw [HL.out]; exact hkl
      obtain ⟨g, rfl, hce⟩ := HCE.out (by omega)
      have c0 := hce wr HR.out.1 k hkl
      have hWr := HW.out.1.keep HR.out.1
      have hmem := HFM.out _ (getI_mem hk')
      have hlk := hWr.lookS hmem
      have hrv := hWr.each _ hmem
      obtain ⟨d0, -, -, -⟩ := hWr.cells
      have HC : Hid (Calls Tryz.prog 35 #[(F.getD k idZ).val, .slice ua ls.length uc] wr fun e w' => e = .returned (.int .i64 (cmpLs (F.getD k idZ).lbs ls)) ∧ Hid (w.grownBy w' none)) := (compare_any wr _ _ _ _ hrv.1 (HW.out.2.keep HR.out.1)).mono fun e w' ⟨h1, h2⟩ => ⟨h1, gb_none HR.out.1 h2⟩
      obtain ⟨ra, rc, hval⟩ : ∃ va vc, (F.getD k idZ).val = .slice va (F.getD k idZ).lbs.length vc := by obtain ⟨⟨a, c, e, _⟩, _⟩ := hrv; exact ⟨a, c, e⟩
      rw [hval] at HC hlk
      have hcz := cmpLs_zero (F.getD k idZ).lbs ls
      by_cases he : (F.getD k idZ).lbs = ls
      · have HP := hidJ (HN1.out k hkl he HR.out.2)
        have hc0 : cmpLs (F.getD k idZ).lbs ls = 0 := hcz.2 he
        rw [hc0] at HC
        obtain ⟨vn, hvn⟩ : ∃ vn : Int, vn = ((F.getD k idZ).num : Int) := ⟨_, rfl⟩
        rw [← hvn] at HP c0 hlk
        clear hce he HR hrv hWr hval hcz hc0 HN1 HN0 hmem hvn HCE
        generalize (F.getD k idZ).lbs.length = vl at *
        go_wp2_with fail
        refine HC.out.mono ?_
        rintro e w2 ⟨rfl, H2⟩
        clear HC
        go_wp2
        go_ret2
        exact ⟨by (rw [HP.out]; first | done | rfl), H2.out⟩
      · have HR2 : Hid (∀ j, j < k + 1 → (F.getD j idZ).lbs ≠ ls) := fun j hj => by
          by_cases e : j = k
          · rw [e]; exact he
          · exact HR.out.2 j (by omega)
        have hc0 : ¬ cmpLs (F.getD k idZ).lbs ls = 0 := fun h => he (hcz.1 h)
        have hc1 : (cmpLs (F.getD k idZ).lbs ls == 0) = false := by rw [beq_eq_false_iff_ne]; exact hc0
        clear hce he HR hrv hWr hval hcz HN1 HN0 hmem HCE
        generalize cmpLs (F.getD k idZ).lbs ls = CC at *
        generalize (F.getD k idZ).lbs.length = vl at *
        generalize ((F.getD k idZ).num : Int) = vn at *
        go_wp2_with fail
        refine HC.out.mono ?_
        rintro e w2 ⟨rfl, H2⟩
        clear HC
        go_wp2
        go_roundw
        case rel => exact ⟨k + 1, by omega, by go_num, H2.out, HR2.out⟩
        case measure => simp [intOf]; omega
    · have HP := hidJ (HN0.out (fun j hj => HR.out.2 j (by omega)))
      have HG : Hid (w.grownBy wr none) := HR.out.1
      clear HR HN0 HN1 HCE
      go_wp2
      go_ret2
      exact ⟨by (rw [HP.out]; first | done | rfl), HG.out⟩

set_option maxHeartbeats 1600000 in
theorem prjLen_any (w : World) (S : Nat → Prop) (gx last gs gh : Nat) (rs : List IdR) (Ds Dh : DataW Unit) (hv : BitVec 64 → Value) (h : PrjI w S gx rs last gs gh Ds Dh hv) :
    Calls Tryz.prog 24 #[.pointer (some ⟨gx, 0, none⟩)] w fun e w' => e = .returned (.int .i64 (rs.length : Int)) ∧ w' = w := by
  have hlen := fun ty => h.sets.len Tryz.underlying48 ty
  rw [h.size] at hlen
  obtain ⟨c0, -, -, -⟩ := h.cells
  clear h
  generalize rs.length = L at *
  go_enter Tryz.func24, Tryz.ntmps24
  go_wp2
  go_ret
  exact ⟨rfl, rfl⟩

theorem copy_own {w w' : World} {ls : List LbT} (hb : w'.heap[w.heap.size]? = some (.cells (lbf ls).toArray 70 (0, 0))) (hl : ls.length ≤ 4398046511104) : OwnL w' w.heap.size (.slice (some ⟨w.heap.size, 0, none⟩) ls.length ls.length) ls := by
  have hll := lbf_len ls
  refine ⟨?_, .inr ⟨w.heap.size, ls.length, (lbf ls).toArray, rfl, Nat.le_refl _, hb, Nat.le_refl _, by unfold maxLen; omega, by simp [hll], ?_⟩⟩
  · omega
  · show List.take (ls.length * 2) (lbf ls) = lbf ls
    exact List.take_of_length_le (by omega)

set_option maxRecDepth 8000 in
set_option maxHeartbeats 3200000 in
theorem prjLabels_any (w : World) (S : Nat → Prop) (gx last gs gh : Nat) (rs : List IdR) (Ds Dh : DataW Unit) (hv : BitVec 64 → Value) (n : Int) (h : PrjI w S gx rs last gs gh Ds Dh hv) (hn : -9223372036854775808 ≤ n) (hn2 : n ≤ 9223372036854775807) (hlen : ∀ r ∈ rs, r.lbs.length ≤ 16) :
    Calls Tryz.prog 16 #[.pointer (some ⟨gx, 0, none⟩), .int .i64 n] w fun e w' => ∃ v', e = .returned (.tuple #[v', .int .i64 (labI rs n).2]) ∧ OwnL w' w.heap.size v' (labI rs n).1 ∧ w.grownBy w' none := by
  obtain ⟨c0, -, -, -⟩ := h.cells
  obtain ⟨v, ps, h1, h2⟩ := h.sets.look_ok keyI Tryz.underlying48 (zeroSL w) (R := slElem) (zd := .nil) (zp := []) rfl (keyIn n hn hn2)
  by_cases hx : ∃ k, k < rs.length ∧ ((rs.getD k idZ).num : Int) = n
  · obtain ⟨k, hk, he⟩ := hx
    have hmem := getI_mem hk
    have hno : ∀ j, j < k → ((rs.getD j idZ).num : Int) ≠ n := fun j hj e => by
      have hj' : j < rs.length := by omega
      have := List.pairwise_iff_getElem.1 h.rise j k hj' hk hj
      simp [hj', hk] at e he
      omega
    rw [labI_some hk he hno]
    have hhas : Maps.has Ds (.int .i64 n) = true := by
      rw [h.hasS, List.any_eq_true]
      exact ⟨_, hmem, decide_eq_true he⟩
    have hat := h.atS _ hmem
    rw [he] at hat
    rw [hat] at h2
    have hv2 : v = (rs.getD k idZ).val := Shp.inv (h.shp _ hmem) h2
    rw [hhas, hv2] at h1
    have hrv := (h.each _ hmem).1
    have hl16 := hlen _ hmem
    have HC := copyOf_any w _ _ hrv (by omega)
    obtain ⟨ra, rc, hval⟩ : ∃ va vc, (rs.getD k idZ).val = .slice va (rs.getD k idZ).lbs.length vc := by obtain ⟨a, c, e, _⟩ := hrv; exact ⟨a, c, e⟩
    rw [hval] at HC h1
    have HO : Hid (∀ w', w'.heap[w.heap.size]? = some (.cells (lbf (rs.getD k idZ).lbs).toArray 70 (0, 0)) → OwnL w' w.heap.size (.slice (some ⟨w.heap.size, 0, none⟩) (rs.getD k idZ).lbs.length (rs.getD k idZ).lbs.length) (rs.getD k idZ).lbs) := fun w' hb => copy_own hb (by omega)
    dsimp only
    have HC := hidJ HC
    clear h hat hhas hv2 hrv hval h2 hno he hlen hmem
    generalize (rs.getD k idZ).lbs = lb at *
    generalize hvl : lb.length = vl at *
    clear hvl
    go_enter Tryz.func16, Tryz.ntmps16
    go_wp2_with fail
    refine HC.out.mono ?_
    rintro e w1 ⟨rfl, hb1, hg1⟩
    have H1 := hidJ (And.intro (HO.out w1 hb1) hg1)
    clear HC hb1 hg1 HO
    go_wp2
    go_ret2
    exact ⟨_, rfl, H1.out⟩
  · have hno : ∀ j, j < rs.length → ((rs.getD j idZ).num : Int) ≠ n := fun j hj e => hx ⟨j, hj, e⟩
    rw [labI_none hno]
    have hhas : Maps.has Ds (.int .i64 n) = false := by
      rw [h.hasS, List.any_eq_false]
      intro r hr
      obtain ⟨j, hj, rfl⟩ := List.mem_iff_getElem.1 hr
      have := hno j hj
      simpa [hj] using this
    rw [hhas] at h1
    rw [atKey_of_not_has hhas] at h2
    have hv2 : v = .slice none 0 0 := Shp.inv (v := .slice none 0 0) (.inl rfl) h2
    rw [hv2] at h1
    dsimp only
    clear h hhas hv2 h2 hno hx hlen
    go_enter Tryz.func16, Tryz.ntmps16
    go_wp2
    go_ret2
    exact ⟨_, rfl, OwnL.nil _ _, gb_refl _ _⟩
end Go.Proofs.YtkipnkpnkhfjhabGreatDoor

/- LbJa -/
namespace Go.Proofs.YtkipnkpnkhfjhabGreatDoor
open Go.RowKit Go.Maps Go.WideMaps

theorem ofH_snoc (rs : List IdR) (r : IdR) (y : BitVec 64) : ofH (rs ++ [r]) y = ofH rs y ++ (if hs r.lbs = y then [r] else []) := by
  unfold ofH
  rw [List.filter_append]
  congr 1
  by_cases h : hs r.lbs = y
  · simp [h]
  · simp [h]
theorem PrjI.ne_sx {w : World} {S : Nat → Prop} {gx last gs gh : Nat} {rs : List IdR} {Ds Dh : DataW Unit} {hv : BitVec 64 → Value} (h : PrjI w S gx rs last gs gh Ds Dh hv) : gs ≠ gx ∧ gh ≠ gx := by
  refine ⟨fun e => ?_, fun e => ?_⟩
  · obtain ⟨es, ck, hm⟩ := mapI_obj h.sets
    rw [e, h.box] at hm
    cases hm
  · obtain ⟨es, ck, hm⟩ := mapI_obj h.hash
    rw [e, h.box] at hm
    cases hm
theorem PrjI.ne_row {w : World} {S : Nat → Prop} {gx last gs gh : Nat} {rs : List IdR} {Ds Dh : DataW Unit} {hv : BitVec 64 → Value} (h : PrjI w S gx rs last gs gh Ds Dh hv) {x : BitVec 64} (hx : ofH rs x ≠ []) {k : Nat} (hk : (hv x).ownBlock = some k) : k ≠ gx ∧ k ≠ gs ∧ k ≠ gh ∧ k < w.heap.size := by
  obtain ⟨cur, hc⟩ := row_objE (h.rows x hx) hk
  refine ⟨fun e => ?_, fun e => ?_, fun e => ?_, some_lt hc⟩
  · rw [e, h.box] at hc
    simp at hc
  · obtain ⟨es, ck, hm⟩ := mapI_obj h.sets
    rw [e, hm] at hc
    cases hc
  · obtain ⟨es, ck, hm⟩ := mapI_obj h.hash
    rw [e, hm] at hc
    cases hc
theorem PrjI.ne_val {w : World} {S : Nat → Prop} {gx last gs gh : Nat} {rs : List IdR} {Ds Dh : DataW Unit} {hv : BitVec 64 → Value} (h : PrjI w S gx rs last gs gh Ds Dh hv) {r : IdR} (hr : r ∈ rs) {k : Nat} (hk : r.val.ownBlock = some k) : k ≠ gx ∧ k ≠ gs ∧ k ≠ gh ∧ ∀ x, ofH rs x ≠ [] → (hv x).ownBlock ≠ some k := by
  obtain ⟨-, cur, fr, hc⟩ := (h.each r hr).2 k hk
  refine ⟨fun e => ?_, fun e => ?_, fun e => ?_, fun x hx e => ?_⟩
  · rw [e, h.box] at hc
    simp at hc
  · obtain ⟨es, ck, hm⟩ := mapI_obj h.sets
    rw [e, hm] at hc
    cases hc
  · obtain ⟨es, ck, hm⟩ := mapI_obj h.hash
    rw [e, hm] at hc
    cases hc
  · obtain ⟨cur', hc'⟩ := row_objE (h.rows x hx) e
    rw [hc'] at hc
    simp at hc
theorem rowH_block {rs : List IdR} {hv : BitVec 64 → Value} {x : BitVec 64} {k : Nat} (h : (rowH rs hv x).ownBlock = some k) : ofH rs x ≠ [] ∧ (hv x).ownBlock = some k := by
  unfold rowH at h
  by_cases hx : ofH rs x = []
  · rw [if_pos hx] at h
    simp [Value.ownBlock] at h
  · rw [if_neg hx] at h
    exact ⟨hx, h⟩
/-- the rows of numbers behind a set more -/
def hvSet (hv : BitVec 64 → Value) (x : BitVec 64) (v : Value) : BitVec 64 → Value := fun y => if y = x then v else hv y
theorem isKeyI (n : Int) : WideAt.IsKeyLit (.int .i64 n) := trivial
theorem isKeyU (n : Int) : WideAt.IsKeyLit (.int .u64 n) := trivial

theorem addI_end {w w1 w2 w3 w4 w5 w6 : World} {S : Nat → Prop} {gx last gs gh : Nat} {rs : List IdR} {Ds Dh : DataW Unit} {hv : BitVec 64 → Value} {own v' : Value} {ls : List LbT} {C : Obj} (HW : PrjI w S gx rs last gs gh Ds Dh hv)
    (hlt : rs.length < 1000) (hla : last < 1000000000000000000)
    (hc1 : Ch w w1 (fun k => k = gx)) (hb1 : w1.heap[gx]? = some (.cells #[.map (some gs), .map (some gh), .int .i64 ((last + 1 : Nat) : Int)] 51))
    (hg2 : w1.grownBy w2 none) (hown : OwnL w2 w.heap.size own ls)
    (hm3 : w3.ownsMap Tryz.prog 3 slElem gs (last + 1) (Ds.put (.int .i64 ((last + 1 : Nat) : Int)) (slD own))) (hg3 : w2.grownBy w3 (some gs))
    (hg4 : w3.grownBy w4 none)
    (ho5 : w5.ownsRow 0 3 1 v' ((ofH rs (hs ls)).length + 1) (idsOf rs (hs ls) ++ [.int .i64 ((last + 1 : Nat) : Int)])) (hf5 : Fr ((w4.alloc C).drew) w5 (rowH rs hv (hs ls)) v')
    (hm6 : w6.ownsMap Tryz.prog 64 slElem gh (last + 1) (Dh.put (.int .u64 (I64 (hs ls))) (slD v'))) (hg6 : w5.grownBy w6 (some gh)) :
    PrjI w6 (Gr S w w6) gx (rs ++ [⟨last + 1, own, ls⟩]) (last + 1) gs gh (Ds.put (.int .i64 ((last + 1 : Nat) : Int)) (slD own)) (Dh.put (.int .u64 (I64 (hs ls))) (slD v')) (hvSet hv (hs ls) v') ∧ Ch w w6 S := by
  obtain ⟨nsx, nhx⟩ := HW.ne_sx
  have lx : gx < w.heap.size := some_lt HW.box
  have ls' : gs < w.heap.size := HW.sets.lt
  have lh : gh < w.heap.size := HW.hash.lt
  have z1 := hc1.size
  have z2 := hg2.size
  have z3 := hg3.size
  have z4 := hg4.size
  have z5 : w4.heap.size + 1 ≤ w5.heap.size := by simpa using hf5.1.size
  have z6 := hg6.size
  have vb : ∀ k, (rowH rs hv (hs ls)).ownBlock = some k → k ≠ gx ∧ k ≠ gs ∧ k ≠ gh ∧ k < w.heap.size := fun k hk => HW.ne_row (rowH_block hk).1 (rowH_block hk).2
  -- blocks from the third world on
  have b36 : ∀ k, k < w3.heap.size → k ≠ gh → (rowH rs hv (hs ls)).ownBlock ≠ some k → w6.heap[k]? = w3.heap[k]? := fun k hk h1 h2 => by
    rw [hg6.block k (by omega) (fun e => h1 (Option.some.inj e).symm.symm), hf5.1.block k (by simp; omega) (fun e => h2 e.symm)]
    show ((w4.alloc C)).heap[k]? = _
    rw [(World.grownBy_alloc _ C none).block k (by omega) (by simp)]
    exact hg4.block k hk (by simp)
  have b26 : ∀ k, k < w2.heap.size → k ≠ gs → k ≠ gh → (rowH rs hv (hs ls)).ownBlock ≠ some k → w6.heap[k]? = w2.heap[k]? := fun k hk h0 h1 h2 => by
    rw [b36 k (by omega) h1 h2]
    exact hg3.block k hk (fun e => h0 (Option.some.inj e).symm.symm)
  have b16 : ∀ k, k < w1.heap.size → k ≠ gs → k ≠ gh → (rowH rs hv (hs ls)).ownBlock ≠ some k → w6.heap[k]? = w1.heap[k]? := fun k hk h0 h1 h2 => by
    rw [b26 k (by omega) h0 h1 h2]
    exact hg2.block k hk (by simp)
  have hch : Ch w w6 (fun k => k = gx ∨ k = gs ∨ k = gh ∨ (rowH rs hv (hs ls)).ownBlock = some k) := by
    refine ⟨?_, ?_, ?_, by omega, fun k hk hn => ?_⟩
    · exact hg6.os.trans (hf5.1.os.trans (hg4.os.trans (hg3.os.trans (hg2.os.trans hc1.1))))
    · exact hg6.tape.trans (hf5.1.tape.trans (hg4.tape.trans (hg3.tape.trans (hg2.tape.trans hc1.2.1))))
    · exact hg6.output.trans (hf5.1.output.trans (hg4.output.trans (hg3.output.trans (hg2.output.trans hc1.2.2.1))))
    · rw [b16 k (by omega) (fun e => hn (.inr (.inl e))) (fun e => hn (.inr (.inr (.inl e)))) (fun e => hn (.inr (.inr (.inr e))))]
      exact hc1.block hk (fun e => hn (.inl e))
  have hnum : ∀ r ∈ rs, (r.num : Int) ≠ ((last + 1 : Nat) : Int) := fun r hr e => by
    have := (HW.upto r hr).2
    omega
  have hnoS : Maps.has Ds (.int .i64 ((last + 1 : Nat) : Int)) = false := by
    rw [HW.hasS, List.any_eq_false]
    intro r hr
    simpa using hnum r hr
  have olt := hown.lt
  have ob : ∀ k, own.ownBlock = some k → w6.heap[k]? = w2.heap[k]? := fun k hk => by
    have := olt k hk
    exact b26 k this.2 (by omega) (by omega) (fun e => by have := (vb k e).2.2.2; omega)
  have vb' : ∀ k, v'.ownBlock = some k → ((rowH rs hv (hs ls)).ownBlock = some k ∨ w4.heap.size + 1 ≤ k) ∧ k ≠ gh ∧ k < w5.heap.size := fun k hk => by
    have h5 := (ho5.lt k hk).2
    rcases hf5.2 k hk with h | h
    · exact ⟨.inl h.symm, (vb k h.symm).2.2.1, h5⟩
    · have h' : w4.heap.size + 1 ≤ k := by simpa using h
      exact ⟨.inr h', by omega, h5⟩
  have hnew : ∀ y, ofH (rs ++ [⟨last + 1, own, ls⟩]) y = ofH rs y ++ (if hs ls = y then [⟨last + 1, own, ls⟩] else []) := fun y => ofH_snoc rs ⟨last + 1, own, ls⟩ y
  have hother : ∀ y, y ≠ hs ls → ofH (rs ++ [⟨last + 1, own, ls⟩]) y = ofH rs y ∧ hvSet hv (hs ls) v' y = hv y := fun y hy => ⟨by rw [hnew, if_neg (fun e => hy e.symm), List.append_nil], by unfold hvSet; rw [if_neg hy]⟩
  have hsame : ofH (rs ++ [⟨last + 1, own, ls⟩]) (hs ls) = ofH rs (hs ls) ++ [⟨last + 1, own, ls⟩] ∧ hvSet hv (hs ls) v' (hs ls) = v' := ⟨by rw [hnew, if_pos rfl], by unfold hvSet; rw [if_pos rfl]⟩
  have hvb : ∀ y, ofH rs y ≠ [] → y ≠ hs ls → ∀ k, (hv y).ownBlock = some k → w6.heap[k]? = w.heap[k]? := fun y hy hne k hk => by
    obtain ⟨q1, q2, q3, q4⟩ := HW.ne_row hy hk
    refine hch.block q4 (fun h => ?_)
    rcases h with h | h | h | h
    · exact q1 h
    · exact q2 h
    · exact q3 h
    · obtain ⟨h1, h2⟩ := rowH_block h
      exact HW.apart (hs ls) y h1 hy (fun e => hne e.symm) k h2 hk
  refine ⟨⟨?_, ?_, hm6, ?_, ?_, ?_, ?_, ?_, ?_, ?_, ?_, .inl HW.inX, .inl HW.inS, .inl HW.inH, ?_, ?_, HW.gsh, ?_, ?_, ?_, by omega⟩, hch.mono (fun k _ hk => ?_)⟩
  · rw [b16 gx (by omega) (fun e => nsx e.symm) (fun e => nhx e.symm) (fun e => (vb gx e).1 rfl)]
    exact hb1
  · exact mapI_via hm3 (b36 gs hm3.lt HW.gsh (fun e => (vb gs e).2.1 rfl))
  · rw [size_put (HW.sets.tidy keyI), hnoS, HW.size]
    simp
  · intro n
    rw [List.any_append]
    by_cases hn : n = ((last + 1 : Nat) : Int)
    · subst hn
      rw [has_put_same HW.sets.isMap (isKeyI _)]
      simp
    · rw [has_put_other (litI_ne hn), HW.hasS]
      have : decide (((last + 1 : Nat) : Int) = n) = false := decide_eq_false (fun e => hn e.symm)
      simp only [List.any_cons, List.any_nil, this, Bool.or_false]
  · intro r hr
    rcases List.mem_append.1 hr with hr | hr
    · rw [atKey_put_other (litI_ne (hnum r hr))]
      exact HW.atS r hr
    · simp only [List.mem_cons, List.not_mem_nil, or_false] at hr
      subst hr
      exact atKey_put_same HW.sets.isMap (isKeyI _) _ _
  · intro r hr
    rcases List.mem_append.1 hr with hr | hr
    · exact HW.shp r hr
    · simp only [List.mem_cons, List.not_mem_nil, or_false] at hr
      subst hr
      exact row_shp hown
  · intro r hr
    rcases List.mem_append.1 hr with hr | hr
    · have hRl := HW.each r hr
      have hno : ∀ k, r.val.ownBlock = some k → ¬ (k = gx ∨ k = gs ∨ k = gh ∨ (rowH rs hv (hs ls)).ownBlock = some k) := fun k hk h => by
        obtain ⟨q1, q2, q3, q4⟩ := HW.ne_val hr hk
        rcases h with h | h | h | h
        · exact q1 h
        · exact q2 h
        · exact q3 h
        · exact q4 _ (rowH_block h).1 (rowH_block h).2
      refine ⟨hRl.1.ch hch (fun k hk _ => hno k hk), fun k hk => ?_⟩
      obtain ⟨h1, cur, fr, h2⟩ := hRl.2 k hk
      exact ⟨.inl h1, cur, fr, by rw [hch.block (some_lt h2) (hno k hk)]; exact h2⟩
    · simp only [List.mem_cons, List.not_mem_nil, or_false] at hr
      subst hr
      refine ⟨hown.rd.via (fun k hk _ => ob k hk), fun k hk => ?_⟩
      have := olt k hk
      obtain ⟨cur, hc⟩ := row_objE hown hk
      exact ⟨.inr ⟨this.1, by omega⟩, cur, _, by rw [ob k hk]; exact hc⟩
  · intro y
    by_cases hy : y = hs ls
    · subst hy
      rw [has_put_same HW.hash.isMap (isKeyU _), hsame.1]
      simp
    · rw [has_put_other (litU_ne hy), HW.hasH, (hother y hy).1]
  · intro y hne
    by_cases hy : y = hs ls
    · subst hy
      rw [atKey_put_same HW.hash.isMap (isKeyU _), hsame.2]
    · rw [(hother y hy).1] at hne
      rw [atKey_put_other (litU_ne hy), (hother y hy).2]
      exact HW.atH y hne
  · intro y hne
    by_cases hy : y = hs ls
    · subst hy
      have e : idsOf (rs ++ [⟨last + 1, own, ls⟩]) (hs ls) = idsOf rs (hs ls) ++ [.int .i64 ((last + 1 : Nat) : Int)] := by
        unfold idsOf
        rw [hsame.1, List.map_append]
        rfl
      rw [hsame.1, hsame.2, e, List.length_append]
      refine row_via ho5 (fun k hk => ?_)
      obtain ⟨-, q2, q3⟩ := vb' k hk
      exact hg6.block k q3 (fun e => q2 (Option.some.inj e).symm.symm)
    · have ho := hother y hy
      have e : idsOf (rs ++ [⟨last + 1, own, ls⟩]) y = idsOf rs y := by
        unfold idsOf
        rw [ho.1]
      rw [ho.1] at hne
      rw [ho.1, ho.2, e]
      exact row_via (HW.rows y hne) (fun k hk => hvb y hne hy k hk)
  · intro y hne k hk
    by_cases hy : y = hs ls
    · subst hy
      rw [hsame.2] at hk
      obtain ⟨q1, q2, q3⟩ := vb' k hk
      rcases q1 with h | h
      · exact .inl (HW.inR _ (rowH_block h).1 k (rowH_block h).2)
      · exact .inr ⟨by omega, by omega⟩
    · rw [(hother y hy).1] at hne
      rw [(hother y hy).2] at hk
      exact .inl (HW.inR y hne k hk)
  · intro y z hy hz hyz k hk hk2
    by_cases ey : y = hs ls
    · subst ey
      have ez : z ≠ hs ls := fun e => hyz e.symm
      rw [(hother z ez).1] at hz
      rw [(hother z ez).2] at hk2
      rw [hsame.2] at hk
      obtain ⟨q1, q2, q3⟩ := vb' k hk
      rcases q1 with h | h
      · exact HW.apart (hs ls) z (rowH_block h).1 hz hyz k (rowH_block h).2 hk2
      · have := (HW.ne_row hz hk2).2.2.2
        omega
    · rw [(hother y ey).1] at hy
      rw [(hother y ey).2] at hk
      by_cases ez : z = hs ls
      · subst ez
        rw [hsame.2] at hk2
        obtain ⟨q1, q2, q3⟩ := vb' k hk2
        rcases q1 with h | h
        · exact HW.apart (hs ls) y (rowH_block h).1 hy (fun e => hyz e.symm) k (rowH_block h).2 hk
        · have := (HW.ne_row hy hk).2.2.2
          omega
      · rw [(hother z ez).1] at hz
        rw [(hother z ez).2] at hk2
        exact HW.apart y z hy hz hyz k hk hk2
  · refine List.pairwise_append.2 ⟨HW.rise, List.pairwise_singleton _ _, fun p hp q hq => ?_⟩
    simp only [List.mem_cons, List.not_mem_nil, or_false] at hq
    subst hq
    have := (HW.upto p hp).2
    show p.num < last + 1
    omega
  · intro r hr
    rcases List.mem_append.1 hr with hr | hr
    · have := HW.upto r hr
      exact ⟨this.1, by omega⟩
    · simp only [List.mem_cons, List.not_mem_nil, or_false] at hr
      subst hr
      exact ⟨by show 0 < last + 1; omega, Nat.le_refl _⟩
  · rw [List.length_append]
    simp
    omega
  · rcases hk with rfl | rfl | rfl | hk
    · exact HW.inX
    · exact HW.inS
    · exact HW.inH
    · exact HW.inR _ (rowH_block hk).1 k (rowH_block hk).2
end Go.Proofs.YtkipnkpnkhfjhabGreatDoor
