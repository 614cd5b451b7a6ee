/-
  A crash of whatever disk: the walk.
-/
import Derived.Test.YtgafmplmngbbfaaDiskK2
namespace Go.Proofs.Ytgafmplmngbbfaa
open Go.RowKit Go.Maps Go.WideMaps

/-- what a crash leaves of a file -/
def crashF (k : Nat) (p : Bs × Nat) : Bs × Nat := (p.1.take (p.2 + min k (p.1.length - p.2)), p.2 + min k (p.1.length - p.2))
def crashM (M : Fls) (ks : List Kp) (left : Lit → Bool) : Fls := fun l => (M l).map (fun p => if left (.string l) then p else crashF (keptAt ks l).toNat p)
theorem crashM_isSome (M : Fls) (ks : List Kp) (left : Lit → Bool) (l : Bs) : (crashM M ks left l).isSome = (M l).isSome := by simp [crashM]
theorem crashM_start {M : Fls} {D : DataW Unit} (ks : List Kp) (h : ∀ l, Maps.has D (.string l) = (M l).isSome) : crashM M ks (Maps.has D) = M := by
  funext l
  unfold crashM
  cases hm : M l with
  | none => rfl
  | some p => simp [h, hm]
theorem sameKey_string (l l' : Bs) : (Lit.string l).sameKey (.string l') = (l == l') := rfl
theorem crashM_step (M : Fls) (ks : List Kp) (left : Lit → Bool) (l : Bs) (p : Bs × Nat) (hm : M l = some p) :
    upd (crashM M ks left) l (some (crashF (keptAt ks l).toNat p)) = crashM M ks (fun z => left z && !z.sameKey (.string l)) := by
  funext l'
  by_cases e : l' = l
  · subst e
    rw [upd_same]
    simp [crashM, hm, sameKey_string]
  · rw [upd_other _ _ e]
    have : (l' == l) = false := by simpa using e
    simp [crashM, sameKey_string, this]
theorem keptAt_nonneg {ks : List Kp} (h : KpOk ks) (l : Bs) : 0 ≤ keptAt ks l := by
  unfold keptAt
  split
  · rename_i k hk
    exact h.2 k (List.mem_of_find?_eq_some hk)
  · exact Int.le_refl _

/-- a pointer to a whole block, or none -/
def mkP : Option Nat → Value
  | none => .pointer none
  | some b => .pointer (some ⟨b, 0, none⟩)
theorem mkP_inv (v : Value) (y : DataW Unit × List MemPlace) (h : ptrElem v = some y) : ∃ c, v = mkP c := by
  unfold ptrElem at h
  split at h
  · exact ⟨none, rfl⟩
  · exact ⟨some _, rfl⟩
  · cases h
def mkS (l : Bs) : Value := .string (ByteArray.mk ⟨l⟩)
theorem mkS_inv (key : Value) (kl : Lit) (h : keyOf Try.prog 9 key = some kl) : ∃ x, key = mkS x := by
  obtain ⟨l, h1, -⟩ := keyOf_string_inv h
  exact ⟨l, h1⟩

set_option maxRecDepth 8000 in
set_option maxHeartbeats 3200000 in
theorem crash_ok (w : World) (S : Nat → Prop) (gd N : Nat) (M : Fls) (v : Value) (ks : List Kp) (h : DiskOK w S gd M N) (hv : KpsIn w v ks) :
    Calls Try.prog 20 #[.pointer (some ⟨gd, 0, none⟩), v] w fun e w' => Ch w w' S ∧ ((KpOk ks ∧ e = .returned (.int .i64 0) ∧ DiskOK w' (Gr S w w') gd (crashM M ks (fun _ => false)) N) ∨ (¬ KpOk ks ∧ e = .returned (.int .i64 1) ∧ DiskOK w' (Gr S w w') gd M N)) := by
  have HK := kept_any v ks w hv
  have HK2 : Hid (Calls Try.prog 46 #[v] w fun e w' => w.grownBy w' none ∧ ((KpOk ks ∧ e = .returned (.tuple #[.map (some w.heap.size), .int .i64 0]) ∧ KMap w' w.heap.size ks.length ks) ∨ (¬ KpOk ks ∧ e = .returned (.tuple #[.map none, .int .i64 1])))) := HK
  have HD : Hid (DiskOK w S gd M N) := h
  clear HK hv h
  go_enter Try.func20, Try.ntmps20
  go_wp2_with fail
  refine HK2.out.mono ?_
  rintro e w1 ⟨hg1, hcase⟩
  rcases hcase with ⟨hok, rfl, hkm⟩ | ⟨hok, rfl⟩
  · have HG1 : Hid (w.grownBy w1 none ∧ KpOk ks ∧ KMap w1 w.heap.size ks.length ks) := ⟨hg1, hok, hkm⟩
    obtain ⟨gm, D, gf, u, hd0⟩ := HD.out.keep hg1
    have hcell := hd0.cell
    have hmap := hd0.map
    have HD1 : Hid (DiskW w1 S gd M N gm D gf u) := hd0
    clear hg1 hok hkm hd0 HK2
    go_wp2_with (first
      | (at_range; refine wpList_range_own _ rfl _ 64 rfl 9 67 lawS Try.underlying64 _ gm N D rfl hmap ?_; intro w2 hrg2 hg2 hs2)
      | go_in)
    go_frame
    have HR2 : Hid (w2.ranges Try.prog 9 ptrElem gm w1.heap.size N D (Maps.has D) (Maps.size D) ∧ w1.grownBy w2 none) := ⟨hrg2, hg2⟩
    clear hrg2 hg2 hs2 hmap hcell
    go_loopw [7] (fun _ wr => ∃ (left : Lit → Bool) (cnt : Nat) (gf u : _), Hid (wr.ranges Try.prog 9 ptrElem gm w1.heap.size N D left cnt ∧ DiskW wr (Gr S w wr) gd (crashM M ks left) N gm D gf u ∧ Ch w wr S ∧ KMap wr w.heap.size ks.length ks)) (fun _ wr => wr.rangeLeft gm w1.heap.size)
    case atStart =>
      refine ⟨_, _, gf, u, HR2.out.1, ?_, ?_, HG1.out.2.2.via (HR2.out.2.block _ HG1.out.2.2.lt (by simp))⟩
      · rw [crashM_start ks HD1.out.has]
        exact (HD1.out.frame (T := fun _ => False) (Ch.of_gb HR2.out.2 (fun k hk => by cases hk)) (fun _ _ _ => id)).mono (fun _ _ => Or.inl)
      · exact Ch.of_gb (gb_none HG1.out.1 HR2.out.2) (fun k hk => by cases hk)
    case round =>
      obtain ⟨left, cnt, gfr, ur, HI⟩ := hrel
      have hrg := HI.out.1
      go_wp2_with (first
        | (at_next; refine wpList_next_ranges _ rfl _ rfl 9 lawS ptrElem mkS mkP mkS_inv mkP_inv gm w1.heap.size N D left cnt rfl hrg ?_ ?_)
        | go_in)
      · intro _ hl0
        have HF : Hid (Ch w wr S ∧ DiskOK wr (Gr S w wr) gd (crashM M ks (fun _ => false)) N) := by
          have e : left = fun _ => false := funext hl0
          have h2 := HI.out
          rw [e] at h2
          exact ⟨h2.2.2.1, gm, D, gfr, ur, h2.2.1⟩
        clear hl0 hrg HI
        go_wp2
        go_ret
        exact ⟨HF.out.1, .inl ⟨HG1.out.2.1, rfl, HF.out.2⟩⟩
      · intro x c kl y ps w3 cnt3 hkey hlk hRv hat hrg3 hlt hg3 hs3 hen
        obtain ⟨l, hkx, rfl, hll⟩ := keyOf_string_inv hkey
        have hxl : x = l := by
          unfold mkS at hkx
          simpa using hkx
        subst hxl
        have hdr := HI.out.2.1
        have hhas : Maps.has D (.string x) = true := has_true_of_atKey hat
        have hsome : (crashM M ks left x).isSome = true := by rw [← hdr.has]; exact hhas
        obtain ⟨⟨cf, zf⟩, hcm⟩ := Option.isSome_iff_exists.1 hsome
        have hMx : M x = some (cf, zf) := by
          unfold crashM at hcm
          cases hM : M x with
          | none => rw [hM] at hcm; cases hcm
          | some p =>
            rw [hM] at hcm
            simp [hlk] at hcm
            rw [hcm]
        have hpt : mkP c = .pointer (some ⟨gfr x, 0, none⟩) := by
          have h1 := hdr.at' x cf zf hcm
          rw [hat] at h1
          refine ptrElem_inv (b := gfr x) (ps := ps) ?_
          rw [hRv, ← h1]
        rw [hpt] at hen ⊢
        unfold mkS at hen ⊢
        -- the world behind the step
        have hm3 : KMap w3 w.heap.size ks.length ks := by
          refine HI.out.2.2.2.via (hg3.block _ HI.out.2.2.2.lt ?_)
          intro e
          simp only [Option.some.injEq] at e
          have := HG1.out.2.2.lt
          omega
        have hrr : ∀ {o : Obj} {k : Nat}, wr.heap[k]? = some o → (∀ q r s t, o ≠ .mapIter q r s t) → k ≠ w1.heap.size := by
          intro o k hk hne e
          obtain ⟨es, clock, since, seen, c0, _, _, _, _, hr, _⟩ := HI.out.1
          rw [e, hr] at hk
          cases hk
          exact hne _ _ _ _ rfl
        have hch3 : Ch wr w3 (fun k => k = w1.heap.size) := Ch.of_gb hg3 (fun k hk _ => by cases hk; rfl)
        have hd3 : DiskW w3 (Gr S w wr) gd (crashM M ks left) N gm D gfr ur := by
          refine ⟨?_, ?_, hdr.size, hdr.most, hdr.inD, hdr.inM, hdr.has, hdr.at', ?_, ?_, hdr.fits, hdr.inF, hdr.apart⟩
          · rw [hch3.block (some_lt hdr.box) (hrr hdr.box (by simp))]; exact hdr.box
          · exact hrg3.owns
          · intro l' c' z' hl'
            have := hdr.file l' c' z' hl'
            rw [hch3.block (some_lt this) (hrr this (by simp))]; exact this
          · intro l' c' z' hl'
            refine (hdr.own l' c' z' hl').via (fun k hk => ?_)
            obtain ⟨cur, hc⟩ := (hdr.own l' c' z' hl').obj hk
            exact hch3.block (some_lt hc) (hrr hc (by simp))
        obtain ⟨Dk, hDk, hDkh, hDka⟩ := hm3
        obtain ⟨q, hlook, hqat, -⟩ := hDk.lookup_int lawS Try.underlying81 Try.underlying3 (zeroI _) (keyS x hll)
        have hq : q = ((keptAt ks x).toNat : Int) := by
          rw [hDka] at hqat
          simp at hqat
          have := keptAt_nonneg HG1.out.2.1 x
          omega
        rw [hq] at hlook
        have hfc := fcrash_any w3 0 (gfr x) (ur x) cf zf (keptAt ks x).toNat (hd3.file x cf zf hcm) (hd3.own x cf zf hcm) (hd3.fits x cf zf hcm).2.1 (hd3.fits x cf zf hcm).2.2
        have HFC : Hid (Calls Try.prog 47 #[.pointer (some ⟨gfr x, 0, none⟩), .int .i64 ((keptAt ks x).toNat : Int)] w3 fun e w' => ∃ u', e = .returned (.tuple #[]) ∧ w'.heap[gfr x]? = some (.cells #[u', .int .i64 ((crashF (keptAt ks x).toNat (cf, zf)).2 : Int)] 77) ∧ Own w' w3.heap.size u' (crashF (keptAt ks x).toNat (cf, zf)).1 ∧ u'.ownBlock = some w3.heap.size ∧ w3.grownBy w' (some (gfr x))) := hfc
        have H3 : Hid (w3.ranges Try.prog 9 ptrElem gm w1.heap.size N D (fun z => left z && !z.sameKey (.string x)) cnt3 ∧ DiskW w3 (Gr S w wr) gd (crashM M ks left) N gm D gfr ur ∧ KMap w3 w.heap.size ks.length ks ∧ crashM M ks left x = some (cf, zf) ∧ M x = some (cf, zf) ∧ Ch w w3 S ∧ wr.heap.size = w3.heap.size ∧ wr.rangeLeft gm w1.heap.size = cnt ∧ cnt3 < cnt) := by
          refine ⟨hrg3, hd3, ⟨Dk, hDk, hDkh, hDka⟩, hcm, hMx, ?_, hs3.symm, hrg.left_eq, hlt⟩
          refine HI.out.2.2.1.trans hch3 (fun k hk e => ?_)
          have := HG1.out.1.size
          omega
        clear hfc hq hDk hDkh hDka hqat hd3 hch3 hrr hpt hMx hcm hsome hhas hdr hkx hkey hlk hRv hat hrg3 hlt hg3 hs3 hrg HI
        generalize hkk : (keptAt ks x).toNat = K at *
        have HKK : Hid ((keptAt ks x).toNat = K) := hkk
        clear hkk
        generalize ByteArray.mk ⟨x⟩ = sx at *
        go_wp2_with fail
        refine HFC.out.mono ?_
        rintro e w4 ⟨u4, rfl, hf4, ho4, hob4, hg4⟩
        have H4 : Hid (∃ (left : Lit → Bool) (cnt : Nat) (gf : Bs → Nat) (u : Bs → Value), (w4.ranges Try.prog 9 ptrElem gm w1.heap.size N D left cnt ∧ DiskW w4 (Gr S w w4) gd (crashM M ks left) N gm D gf u ∧ Ch w w4 S ∧ KMap w4 w.heap.size ks.length ks) ∧ w4.rangeLeft gm w1.heap.size < wr.rangeLeft gm w1.heap.size) := by
          obtain ⟨hrg3, hd3, hk3, hcm, hMx, hch3, hsz, hle, hlt⟩ := H3.out
          have hch4 : Ch w3 w4 (fun k => k = gfr x) := Ch.of_gb hg4 (fun k hk _ => by cases hk; rfl)
          have hfx := hd3.file x cf zf hcm
          have hrg4 : w4.ranges Try.prog 9 ptrElem gm w1.heap.size N D (fun z => left z && !z.sameKey (.string x)) cnt3 := by
            refine hrg3.kept hg4 (fun e => hd3.ne_mf hcm (by cases e; rfl)) (fun e => ?_)
            obtain ⟨es, clock, since, seen, c0, _, _, _, _, hr, _⟩ := hrg3
            have e' : w1.heap.size = gfr x := Option.some.inj e
            rw [e', hfx] at hr
            cases hr
          have hfits := hd3.fits x cf zf hcm
          have ht := hd3.turn x (crashF K (cf, zf)).1 cf (crashF K (cf, zf)).2 zf u4 hcm hch4 (fun k _ e => .inl e) hf4 (ho4.mono (Nat.zero_le _)) (by simp [crashF]; omega) (fun k hk => by rw [hob4] at hk; cases hk; exact .inr (Nat.le_refl _))
          have hst := crashM_step M ks left x (cf, zf) hMx
          rw [HKK.out] at hst
          rw [hst] at ht
          refine ⟨_, cnt3, _, _, ⟨hrg4, ht.mono (fun k hk hg => ?_), ?_, ?_⟩, ?_⟩
          · rcases hg with (hg | hg) | hg
            · exact .inl hg
            · exact .inr ⟨hg.1, by omega⟩
            · exact .inr ⟨by have := hch3.size; omega, hg.2⟩
          · refine hch3.trans hch4 (fun k hk e => ?_)
            rcases (hd3.inF x cf zf hcm).1 with hg | hg
            · rw [e]; exact hg
            · omega
          · refine hk3.via (hch4.block hk3.lt (fun e => ?_))
            obtain ⟨es, ck, hm⟩ := hk3.obj
            rw [e, hfx] at hm
            cases hm
          · rw [hrg4.left_eq, hle]; exact hlt
        obtain ⟨left4, cnt4, gf4, u4', H5, hms⟩ := H4.out
        have H6 : Hid (w4.ranges Try.prog 9 ptrElem gm w1.heap.size N D left4 cnt4 ∧ DiskW w4 (Gr S w w4) gd (crashM M ks left4) N gm D gf4 u4' ∧ Ch w w4 S ∧ KMap w4 w.heap.size ks.length ks) := H5
        clear hf4 ho4 hob4 hg4 H3 H4 H5
        go_wp2
        go_roundw
        case rel => exact ⟨left4, cnt4, gf4, u4', H6⟩
        case measure => exact hms
  · have HF : Hid (Ch w w1 S ∧ DiskOK w1 (Gr S w w1) gd M N ∧ ¬ KpOk ks) := ⟨Ch.of_gb hg1 (fun k hk => by cases hk), DiskOK.gr (HD.out.keep hg1), hok⟩
    clear hg1 hok HK2 HD
    go_wp2
    go_ret
    exact ⟨HF.out.1, .inr ⟨HF.out.2.2, rfl, HF.out.2.1⟩⟩
end Go.Proofs.Ytgafmplmngbbfaa
