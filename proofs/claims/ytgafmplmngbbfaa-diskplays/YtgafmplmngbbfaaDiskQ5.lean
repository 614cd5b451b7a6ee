/-
  A file's twin, and a copy of whatever disk: the walks.
-/
import Derived.Test.YtgafmplmngbbfaaDiskX
import Derived.Test.YtgafmplmngbbfaaDiskQ4
import Derived.Deep.RegionWith
namespace Go.Proofs.Ytgafmplmngbbfaa
open Go.RowKit Go.Maps Go.WideMaps

theorem cell_keep {w w' : World} {g j : Nat} {u : Value} (h : w.cell? ⟨g, j, none⟩ = some u) (hg : w.grownBy w' none) : w'.cell? ⟨g, j, none⟩ = some u := by
  rw [← h]
  exact World.cell?_of_block (hg.block g (block_lt h) (by simp))
set_option maxRecDepth 8000 in
set_option maxHeartbeats 3200000 in
theorem twin_any (w : World) (gf : Nat) (u : Value) (c : Bs) (z : Nat) (hblk : w.heap[gf]? = some (.cells #[u, .int .i64 (z : Int)] 77)) (ho : Own w 0 u c) (hc : c.length ≤ 1048576) :
    Calls Try.prog 31 #[.pointer (some ⟨gf, 0, none⟩)] w fun e w' => ∃ g' u', e = .returned (.pointer (some ⟨g', 0, none⟩)) ∧ w.heap.size ≤ g' ∧ w'.heap[g']? = some (.cells #[u', .int .i64 (z : Int)] 77) ∧ Own w' w.heap.size u' c ∧ w.grownBy w' none := by
  have HC : Hid (∀ w', w.grownBy w' none → Calls Try.prog 48 #[u] w' fun e w'' => ∃ v', e = .returned v' ∧ Own w'' w.heap.size v' c ∧ w.grownBy w'' none) := fun w' hg => (copyOf_any u c w' ((ho.keep hg).rd) (by omega)).mono (fun e w'' ⟨v', h1, h2, h3, _⟩ => ⟨v', h1, h2.mono hg.size, gb_none hg h3⟩)
  have d0 : w.cell? ⟨gf, 0, none⟩ = some u := by simp [World.cell?, hblk]
  have d1 : w.cell? ⟨gf, 1, none⟩ = some (.int .i64 (z : Int)) := by simp [World.cell?, hblk]
  have HD : Hid (w.cell? ⟨gf, 1, none⟩ = some (.int .i64 (z : Int))) := d1
  obtain ⟨a, cap, rfl⟩ := ho.shape
  clear ho hblk hc
  go_enter Try.func31, Try.ntmps31
  go_wp2_with fail
  go_region_with (go_at_call 48; refine (HC.out _ (by first | exact gb_refl _ _ | exact gb_drew _ _)).mono ?_; rintro e w1 ⟨v1, rfl, ho1, hg1⟩; have e1 : w1.cell? ⟨gf, 1, none⟩ = some (.int .i64 (z : Int)) := cell_keep HD.out hg1; have H1 : Hid (Own w1 w.heap.size v1 c ∧ w.grownBy w1 none) := ⟨ho1, hg1⟩; obtain ⟨a1, c1, rfl⟩ := ho1.shape; clear ho1 hg1)
  all_goals (try go_wp2)
  all_goals go_ret
  all_goals refine ⟨w1.heap.size, .slice a1 c.length c1, rfl, H1.out.2.size, ?_, ?_, ?_⟩
  all_goals first
    | exact alloc_at _ _
    | exact H1.out.1.keep (World.grownBy_alloc _ _ none)
    | exact gb_none H1.out.2 (World.grownBy_alloc _ _ none)
    | exact H1.out.1.keep (gb_none (World.grownBy_alloc _ _ none) (gb_drew _ none))
    | exact gb_none H1.out.2 (gb_none (World.grownBy_alloc _ _ none) (gb_drew _ none))
    | skip

def copyM (M : Fls) (left : Lit → Bool) : Fls := fun l => if left (.string l) then none else M l
theorem copyM_start {M : Fls} {D : DataW Unit} (h : ∀ l, Maps.has D (.string l) = (M l).isSome) : copyM M (Maps.has D) = fun _ => none := by
  funext l
  unfold copyM
  rw [h]
  cases M l <;> rfl
theorem copyM_step (M : Fls) (left : Lit → Bool) (l : Bs) (p : Bs × Nat) (hm : M l = some p) : upd (copyM M left) l (some p) = copyM M (fun z => left z && !z.sameKey (.string l)) := by
  funext l'
  by_cases e : l' = l
  · subst e
    rw [upd_same]
    simp [copyM, hm, sameKey_string]
  · rw [upd_other _ _ e]
    have : (l' == l) = false := by simpa using e
    simp [copyM, sameKey_string, this]
theorem size_of_has {w : World} {b n b' n' : Nat} {D D' : DataW Unit} (h : w.ownsMap Try.prog 9 ptrElem b n D) (h' : w.ownsMap Try.prog 9 ptrElem b' n' D') (hh : ∀ l, Maps.has D (.string l) = Maps.has D' (.string l)) : Maps.size D = Maps.size D' := by
  obtain ⟨es, rfl, hp, hk⟩ := h.entries lawS
  obtain ⟨es', rfl, hp', hk'⟩ := h'.entries lawS
  have str : ∀ {w : World} {b n : Nat} {es : List (Lit × DataW Unit)}, w.ownsMap Try.prog 9 ptrElem b n (.map es) → ∀ p ∈ es, ∃ x, p.1 = .string x := by
    intro w b n es h p hp
    obtain ⟨es0, clock, _, F, _, e⟩ := h
    cases e
    obtain ⟨x, hx, rfl⟩ := List.mem_map.1 (mem_sorted.1 hp)
    obtain ⟨y, hy⟩ := F.reads x hx
    rw [WideElems.rg_of hy]
    obtain ⟨l, -, h2, -⟩ := keyOf_string_inv (WideElems.rd_key hy)
    exact ⟨l, h2⟩
  have s1 := str h
  have s2 := str h'
  have cnt : ∀ (a b : List (Lit × DataW Unit)), a.Pairwise (fun p q => p.1 ≠ q.1) → (∀ p ∈ a, ∃ q ∈ b, q.1 = p.1) → a.length ≤ b.length := by
    classical
    intro a
    induction a with
    | nil => intro b _ _; simp
    | cons x a ih =>
      intro b hpw hm
      obtain ⟨q, hq, hqx⟩ := hm x (by simp)
      obtain ⟨h1, h2⟩ := List.pairwise_cons.1 hpw
      have := ih (b.erase q) h2 (fun p hp => by
        obtain ⟨r, hr, hrp⟩ := hm p (by simp [hp])
        refine ⟨r, ?_, hrp⟩
        have hne : r ≠ q := fun e => h1 p hp (by rw [← hrp, e, hqx])
        exact (List.mem_erase_of_ne hne).2 hr)
      have hl := List.length_erase_of_mem hq
      have hpos := List.length_pos_of_mem hq
      simp only [List.length_cons]
      omega
  have mem : ∀ (a b : List (Lit × DataW Unit)), (∀ p ∈ a, ∃ x, p.1 = .string x) → (∀ l, Maps.has (.map a) (.string l) = Maps.has (.map b) (.string l)) → ∀ p ∈ a, ∃ q ∈ b, q.1 = p.1 := by
    intro a b sa hab p hp
    obtain ⟨x, hx⟩ := sa p hp
    have h1 : Maps.has (.map a) (.string x) = true := List.any_eq_true.2 ⟨p, hp, by rw [hx]; simp [Lit.sameKey]⟩
    rw [hab] at h1
    obtain ⟨q, hq, hqs⟩ := List.any_eq_true.1 h1
    exact ⟨q, hq, by rw [hx]; exact WideAt.sameKey_eq hqs⟩
  exact Nat.le_antisymm (cnt es es' hp (mem es es' s1 hh)) (cnt es' es hp' (mem es' es s2 (fun l => (hh l).symm)))

set_option maxRecDepth 8000 in
set_option maxHeartbeats 6400000 in
theorem copy_ok (w : World) (S : Nat → Prop) (gd N : Nat) (M : Fls) (h : DiskOK w S gd M N) :
    Calls Try.prog 10 #[.pointer (some ⟨gd, 0, none⟩)] w fun e w' => ∃ g2, e = .returned (.pointer (some ⟨g2, 0, none⟩)) ∧ DiskOK w' (fun k => w.heap.size ≤ k ∧ k < w'.heap.size) g2 M N ∧ w.grownBy w' none := by
  obtain ⟨gm, D, gf, u, hd0⟩ := h
  obtain ⟨S1, hS1, hd1⟩ : ∃ S1 : Nat → Prop, (∀ k, S1 k → k < w.heap.size) ∧ DiskW w S1 gd M N gm D gf u := ⟨fun k => S k ∧ k < w.heap.size, fun k h => h.2, hd0.mono (fun k hk hs => ⟨hs, hk⟩)⟩
  have HD : Hid (DiskW w S1 gd M N gm D gf u) := hd1
  have HS1 : Hid (∀ k, S1 k → k < w.heap.size) := hS1
  clear hd0 hd1 hS1
  go_enter Try.func10, Try.ntmps10
  go_wp2_with fail
  refine (new_ok _).mono ?_
  rintro e w1 ⟨g2, rfl, hd1, hg1⟩
  have hsrc := HD.out.frame (T := fun _ => False) (Ch.of_gb hg1 (fun k hk => by cases hk)) (fun _ _ _ => id)
  have hcell := hsrc.cell
  have hmap := hsrc.map
  have H1 : Hid (w.grownBy w1 none ∧ DiskOK w1 (fun k => w.heap.size ≤ k ∧ k < w1.heap.size) g2 (fun _ => none) 0 ∧ DiskW w1 S1 gd M N gm D gf u) := ⟨hg1, hd1, hsrc⟩
  clear hg1 hd1 hsrc
  go_wp2_with (first
    | (at_range; refine wpList_range_own _ rfl _ 64 rfl 9 67 lawS Try.underlying64 _ gm N D rfl hmap ?_; intro w2 hrg2 hg2 hs2)
    | go_in)
  go_frame
  have HR2 : Hid (w2.ranges Try.prog 9 ptrElem gm w1.heap.size N D (Maps.has D) (Maps.size D) ∧ w1.grownBy w2 none) := ⟨hrg2, hg2⟩
  clear hrg2 hg2 hs2 hmap hcell
  go_loopw [4] (fun _ wr => ∃ (left : Lit → Bool) (cnt N2 : Nat), Hid (wr.ranges Try.prog 9 ptrElem gm w1.heap.size N D left cnt ∧ DiskOK wr (fun k => w.heap.size ≤ k ∧ k < wr.heap.size) g2 (copyM M left) N2 ∧ N2 + cnt ≤ N ∧ w.grownBy wr none ∧ DiskW wr S1 gd M N gm D gf u)) (fun _ wr => wr.rangeLeft gm w1.heap.size)
  case atStart =>
    refine ⟨_, _, 0, HR2.out.1, ?_, ?_, gb_none H1.out.1 HR2.out.2, H1.out.2.2.frame (T := fun _ => False) (Ch.of_gb HR2.out.2 (fun k hk => by cases hk)) (fun _ _ _ => id)⟩
    · rw [copyM_start H1.out.2.2.has]
      exact (H1.out.2.1.keep HR2.out.2).mono (fun k _ hk => ⟨hk.1, by have := HR2.out.2.size; omega⟩)
    · rw [H1.out.2.2.size]; omega
  case round =>
    obtain ⟨left, cnt, N2, HI⟩ := hrel
    have hrg := HI.out.1
    go_wp2_with (first
      | (at_next; refine wpList_next_ranges _ rfl _ rfl 9 lawS ptrElem mkS mkP mkS_inv mkP_inv gm w1.heap.size N D left cnt rfl hrg ?_ ?_)
      | go_in)
    · intro _ hl0
      have HF : Hid (DiskOK wr (fun k => w.heap.size ≤ k ∧ k < wr.heap.size) g2 M N ∧ w.grownBy wr none) := by
        have e : left = fun _ => false := funext hl0
        obtain ⟨h1, h2, h3, h4, h5⟩ := HI.out
        rw [e] at h2
        have e2 : copyM M (fun _ => false) = M := rfl
        rw [e2] at h2
        obtain ⟨gm2, D2, gf2, u2, hd2⟩ := h2
        have hs := size_of_has hd2.map h5.map (fun l => by rw [hd2.has, h5.has])
        rw [hd2.size, h5.size] at hs
        subst hs
        exact ⟨⟨gm2, D2, gf2, u2, hd2⟩, h4⟩
      clear hl0 hrg HI
      go_wp2
      go_ret
      exact ⟨g2, rfl, HF.out⟩
    · intro x c kl y ps w3 cnt3 hkey hlk hRv hat hrg3 hlt hg3 hs3 hen
      obtain ⟨l, hkx, rfl, hll⟩ := keyOf_string_inv hkey
      have hxl : x = l := by
        unfold mkS at hkx
        simpa using hkx
      subst hxl
      have hdr := HI.out.2.2.2.2
      have hhas : Maps.has D (.string x) = true := has_true_of_atKey hat
      have hsome : (M x).isSome = true := by rw [← hdr.has]; exact hhas
      obtain ⟨⟨cf, zf⟩, hMx⟩ := Option.isSome_iff_exists.1 hsome
      have hpt : mkP c = .pointer (some ⟨gf x, 0, none⟩) := by
        have h1 := hdr.at' x cf zf hMx
        rw [hat] at h1
        refine ptrElem_inv (b := gf x) (ps := ps) ?_
        rw [hRv, ← h1]
      rw [hpt] at hen ⊢
      unfold mkS at hen ⊢
      have hrr : ∀ {o : Obj} {k : Nat}, wr.heap[k]? = some o → (∀ q r s t, o ≠ .mapIter q r s t) → k ≠ w1.heap.size := by
        intro o k hk hne e
        obtain ⟨es, clock, since, seen, c0, _, _, _, _, hr, _⟩ := HI.out.1
        rw [e, hr] at hk
        cases hk
        exact hne _ _ _ _ rfl
      have hch3 : Ch wr w3 (fun k => k = w1.heap.size) := Ch.of_gb hg3 (fun k hk _ => by cases hk; rfl)
      have keepD : ∀ {S' : Nat → Prop} {g' N' gm' : Nat} {M' : Fls} {D' : DataW Unit} {gf' : Bs → Nat} {u' : Bs → Value}, DiskW wr S' g' M' N' gm' D' gf' u' → DiskW w3 S' g' M' N' gm' D' gf' u' := by
        intro S' g' N' gm' M' D' gf' u' hdr
        refine ⟨?_, ?_, hdr.size, hdr.most, hdr.inD, hdr.inM, hdr.has, hdr.at', ?_, ?_, hdr.fits, hdr.inF, hdr.apart⟩
        · rw [hch3.block (some_lt hdr.box) (hrr hdr.box (by simp))]; exact hdr.box
        · obtain ⟨es, ck, hm⟩ := map_obj hdr.map
          exact map_via hdr.map (hch3.block (some_lt hm) (hrr hm (by simp)))
        · intro l' c' z' hl'
          have := hdr.file l' c' z' hl'
          rw [hch3.block (some_lt this) (hrr this (by simp))]; exact this
        · intro l' c' z' hl'
          refine (hdr.own l' c' z' hl').via (fun k hk => ?_)
          obtain ⟨cur, hc⟩ := (hdr.own l' c' z' hl').obj hk
          exact hch3.block (some_lt hc) (hrr hc (by simp))
      obtain ⟨gm2, D2, gf2, u2, hd2⟩ := HI.out.2.1
      have hd3 := keepD hd2
      have hs3' := keepD hdr
      have hw3 : w.grownBy w3 none := (((Ch.of_gb (S := fun k => k = w1.heap.size) HI.out.2.2.2.1 (fun k hk => by cases hk)).trans hch3 (fun _ _ h => h)).gb (fun k hk e => by have := H1.out.1.size; omega))
      have HTw : Hid (∀ w', w3.grownBy w' none → Calls Try.prog 31 #[.pointer (some ⟨gf x, 0, none⟩)] w' fun e w'' => ∃ g' u', e = .returned (.pointer (some ⟨g', 0, none⟩)) ∧ w3.heap.size ≤ g' ∧ w''.heap[g']? = some (.cells #[u', .int .i64 (zf : Int)] 77) ∧ Own w'' w3.heap.size u' cf ∧ w3.grownBy w'' none) := by
        intro w' hg
        have h' := hs3'.frame (T := fun _ => False) (Ch.of_gb hg (fun k hk => by cases hk)) (fun _ _ _ => id)
        refine (twin_any w' (gf x) (u x) cf zf (h'.file x cf zf hMx) (h'.own x cf zf hMx) (h'.fits x cf zf hMx).2.2).mono ?_
        rintro e w'' ⟨g', u', h1, h2, h3, h4, h5⟩
        exact ⟨g', u', h1, Nat.le_trans hg.size h2, h3, h4.mono hg.size, gb_none hg h5⟩
      have H3 : Hid (w3.ranges Try.prog 9 ptrElem gm w1.heap.size N D (fun z => left z && !z.sameKey (.string x)) cnt3 ∧ DiskW w3 (fun k => w.heap.size ≤ k ∧ k < wr.heap.size) g2 (copyM M left) N2 gm2 D2 gf2 u2 ∧ DiskW w3 S1 gd M N gm D gf u ∧ M x = some (cf, zf) ∧ left (.string x) = true ∧ w.grownBy w3 none ∧ wr.heap.size = w3.heap.size ∧ wr.rangeLeft gm w1.heap.size = cnt ∧ cnt3 < cnt ∧ N2 + cnt ≤ N) :=
        ⟨hrg3, hd3, hs3', hMx, hlk, hw3, hs3.symm, hrg.left_eq, hlt, HI.out.2.2.1⟩
      have hc2 := hd3.cell
      have HC2 : Hid (w3.cell? ⟨g2, 0, none⟩ = some (.map (some gm2))) := hc2
      have HKx : Hid (keyOf Try.prog 9 (.string (ByteArray.mk ⟨x⟩)) = some (.string x)) := keyS x hll
      clear hd3 hch3 hrr hpt hMx hsome hhas hdr hkx hkey hlk hRv hat hrg3 hlt hg3 hs3 hrg HI hd2 hs3' hw3
      clear keepD
      generalize hsx : ByteArray.mk ⟨x⟩ = sx at *
      clear hsx
      go_wp2_with fail
      go_region_with (go_at_call 31; refine (HTw.out _ (by first | exact gb_refl _ _ | exact gb_drew _ _)).mono ?_; rintro e w4 ⟨g4, u4, rfl, hge, hf4, ho4, hg4⟩; have e2 : w4.cell? ⟨g2, 0, none⟩ = some (.map (some gm2)) := cell_keep HC2.out hg4; obtain ⟨w5, hup, ho5, hg5⟩ := (H3.out.2.1.map.kept hg4 (by simp)).update lawS Try.underlying64 (by have := H3.out.2.1.most; unfold maxLen; omega) HKx.out (ptrElem_mk g4); have H5 : Hid (w3.heap.size ≤ g4 ∧ w4.heap[g4]? = some (.cells #[u4, .int .i64 (zf : Int)] 77) ∧ Own w4 w3.heap.size u4 cf ∧ w3.grownBy w4 none ∧ w5.ownsMap Try.prog 9 ptrElem gm2 (N2 + 1) (D2.put (.string x) (.lit (.int .i64 (g4 : Int)))) ∧ w4.grownBy w5 (some gm2)) := ⟨hge, hf4, ho4, hg4, ho5, hg5⟩; clear hge hf4 ho4 hg4 ho5 hg5)
      all_goals
        have H6 : Hid (∃ (left' : Lit → Bool) (cnt' N2' : Nat), (w5.ranges Try.prog 9 ptrElem gm w1.heap.size N D left' cnt' ∧ DiskOK w5 (fun k => w.heap.size ≤ k ∧ k < w5.heap.size) g2 (copyM M left') N2' ∧ N2' + cnt' ≤ N ∧ w.grownBy w5 none ∧ DiskW w5 S1 gd M N gm D gf u) ∧ w5.rangeLeft gm w1.heap.size < wr.rangeLeft gm w1.heap.size) := by
          obtain ⟨hrg3, hd3, hs3, hMx, hlk, hw3, hsz, hle, hlt, hN⟩ := H3.out
          obtain ⟨hge, hf4, ho4, hg4, ho5, hg5⟩ := H5.out
          have hz4 := hg4.size
          have hz5 := hg5.size
          have hch5 : Ch w4 w5 (fun k => k = gm2) := Ch.of_gb hg5 (fun k hk _ => by cases hk; rfl)
          have hd4 := (hd3.frame (T := fun _ => False) (Ch.of_gb hg4 (fun k hk => by cases hk)) (fun _ _ _ => id)).mono (T := fun k => w.heap.size ≤ k ∧ k < w4.heap.size) (fun k hk h => ⟨h.1, hk⟩)
          have hs4 := hs3.frame (T := fun _ => False) (Ch.of_gb hg4 (fun k hk => by cases hk)) (fun _ _ _ => id)
          have hgm2 : w.heap.size ≤ gm2 := hd4.inM.1
          have hgm : gm < w.heap.size := HS1.out gm hs4.inM
          have hcm : copyM M left x = none := by simp [copyM, hlk]
          have hp := hd4.put (w' := w5) (T := fun k => k = gm2) x cf zf g4 (N2 + 1) u4 ho5 (by rw [hcm]; simp; have := hs4.most; omega) hch5 (fun e => hd4.ne_dm e)
            (fun l' c' z' _ hm' => ⟨fun e => hd4.ne_mf hm' e.symm, fun k hk e => (hd4.ne_u hm').2.1 (by rw [hk, e])⟩)
            (by
              rw [hch5.block (some_lt hf4) (fun e => ?_)]
              · exact hf4
              · obtain ⟨es, ck, hm⟩ := map_obj hd4.map
                rw [← e, hf4] at hm
                cases hm)
            ((ho4.mono (Nat.zero_le _)).via (fun k hk => hch5.block (ho4.lt k hk).2 (fun e => by
              obtain ⟨cur, hc⟩ := ho4.obj hk
              obtain ⟨es, ck, hm⟩ := map_obj hd4.map
              rw [e, hm] at hc
              cases hc)))
            (hs4.fits x cf zf hMx) (.inl ⟨by have := hw3.size; omega, some_lt hf4⟩)
            (fun l' c' z' _ hm' e => by have := some_lt (hd3.file l' c' z' hm'); omega)
            (fun k hk => .inl ⟨by have := hw3.size; have := (ho4.lt k hk).1; omega, (ho4.lt k hk).2⟩)
            (fun l' c' z' _ hm' k hk hk' => by have := (ho4.lt k hk).1; have := ((hd3.own l' c' z' hm').lt k hk').2; omega)
          rw [copyM_step M left x (cf, zf) hMx, hcm] at hp
          simp only [Option.isSome_none, Bool.false_eq_true, if_false] at hp
          have hrg5 : w5.ranges Try.prog 9 ptrElem gm w1.heap.size N D (fun z => left z && !z.sameKey (.string x)) cnt3 := by
            refine (hrg3.kept hg4 (by simp) (by simp)).kept hg5 (fun e => by have := Option.some.inj e; omega) (fun e => ?_)
            obtain ⟨es, clock, since, seen, c0, _, _, _, _, hr, _⟩ := hrg3.kept hg4 (by simp) (by simp)
            obtain ⟨es', ck, hm⟩ := map_obj hd4.map
            have e' := Option.some.inj e
            rw [e', hm] at hr
            cases hr
          refine ⟨_, cnt3, N2 + 1, ⟨hrg5, ⟨_, _, _, _, hp.mono (fun k hk hg => ?_)⟩, by omega, ?_, hs4.frame hch5 (fun k _ hk e => by have := HS1.out k hk; omega)⟩, ?_⟩
          · rcases hg with hg | hg
            · exact ⟨hg.1, hk⟩
            · exact ⟨by have := hw3.size; omega, hk⟩
          · exact gb_new (gb_none hw3 hg4) hg5 (fun k hk => by cases hk; exact hgm2)
          · rw [hrg5.left_eq, hle]; exact hlt
        obtain ⟨left6, cnt6, N6, H7, hms⟩ := H6.out
        have H8 : Hid (w5.ranges Try.prog 9 ptrElem gm w1.heap.size N D left6 cnt6 ∧ DiskOK w5 (fun k => w.heap.size ≤ k ∧ k < w5.heap.size) g2 (copyM M left6) N6 ∧ N6 + cnt6 ≤ N ∧ w.grownBy w5 none ∧ DiskW w5 S1 gd M N gm D gf u) := H7
        clear H3 H5 H6 H7 hup
        go_wp2
        go_roundw
        case rel => exact ⟨left6, cnt6, N6, H8⟩
        case measure => exact hms
end Go.Proofs.Ytgafmplmngbbfaa
