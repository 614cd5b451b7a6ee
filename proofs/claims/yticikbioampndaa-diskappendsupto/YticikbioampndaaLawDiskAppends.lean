/-
  DiskAppends is true for every input of bulk at most 1048576: bytes that are laid behind one another in pieces are read as those laid at once.
-/
import Derived.Test.YticikbioampndaaLiftL
namespace Go.Proofs.Yticikbioampndaa
open Go.ChangeShapes Go.WideShapes Go.ChangeAt Go.RowKit Go.Maps

def MA (name : Bs) (ps : List Bs) (k : Nat) : Fls := if nameOk name = true ∧ 0 < k then upd (fun _ => none) name (some ((ps.take k).flatten, 0)) else fun _ => none
def NA (name : Bs) (k : Nat) : Nat := if nameOk name = true ∧ 0 < k then 1 else 0
theorem upd_upd (M : Fls) (l : Bs) (x y : Option (Bs × Nat)) : upd (upd M l x) l y = upd M l y := by
  funext k
  by_cases e : k = l
  · subst e; rw [upd_same, upd_same]
  · rw [upd_other _ _ e, upd_other _ _ e, upd_other _ _ e]
theorem flat_len (ps : List Bs) : ps.flatten.length = (ps.map List.length).sum := by rw [List.length_flatten]
theorem take_flat {ps : List Bs} {k : Nat} (hk : k < ps.length) : (ps.take (k + 1)).flatten = (ps.take k).flatten ++ ps.getD k [] := by
  rw [List.take_succ_eq_append_getElem hk, List.flatten_append]
  simp only [List.getD, List.getElem?_eq_getElem hk, Option.getD_some, List.flatten_cons, List.flatten_nil, List.append_nil]
theorem MA_zero (name : Bs) (ps : List Bs) : MA name ps 0 = (fun _ => none) ∧ NA name 0 = 0 := ⟨if_neg (fun h => by omega), if_neg (fun h => by omega)⟩
theorem take_le (ps : List Bs) (k : Nat) : (ps.take k).flatten.length ≤ ps.flatten.length := by
  have h : ps.flatten = (ps.take k).flatten ++ (ps.drop k).flatten := by rw [← List.flatten_append, List.take_append_drop]
  rw [h, List.length_append]
  omega
theorem MA_step {name : Bs} {ps : List Bs} {k : Nat} (hk : k < ps.length) (hs : ps.flatten.length ≤ 1048576) :
    (if appendE (MA name ps k) (NA name k) name (ps.getD k []) = 0 then upd (MA name ps k) name (some (appendF (MA name ps k) name (ps.getD k []))) else MA name ps k) = MA name ps (k + 1) ∧
    (if appendE (MA name ps k) (NA name k) name (ps.getD k []) = 0 ∧ (MA name ps k name).isSome = false then NA name k + 1 else NA name k) = NA name (k + 1) := by
  have hl := take_le ps (k + 1)
  rw [take_flat hk, List.length_append] at hl
  by_cases hn : nameOk name = true
  · by_cases h0 : 0 < k
    · have hM : MA name ps k = upd (fun _ => none) name (some ((ps.take k).flatten, 0)) := if_pos ⟨hn, h0⟩
      have hN : NA name k = 1 := if_pos ⟨hn, h0⟩
      have hE : appendE (MA name ps k) (NA name k) name (ps.getD k []) = 0 := by
        rw [hM]
        simp only [appendE, hn, if_true, upd_same]
        rw [if_neg (by omega)]
      have hF : appendF (MA name ps k) name (ps.getD k []) = ((ps.take (k + 1)).flatten, 0) := by
        rw [hM, take_flat hk]
        simp only [appendF, upd_same]
      have hM1 : MA name ps (k + 1) = upd (fun _ => none) name (some ((ps.take (k + 1)).flatten, 0)) := if_pos ⟨hn, by omega⟩
      have hN1 : NA name (k + 1) = 1 := if_pos ⟨hn, by omega⟩
      rw [hE, hF, hM1, hN, hN1, hM, upd_same]
      exact ⟨by rw [if_pos rfl, upd_upd], by simp⟩
    · have hM : MA name ps k = fun _ => none := if_neg (fun h => h0 h.2)
      have hN : NA name k = 0 := if_neg (fun h => h0 h.2)
      have hE : appendE (MA name ps k) (NA name k) name (ps.getD k []) = 0 := by
        rw [hM, hN]
        simp only [appendE, hn, if_true]
        rw [if_neg (by omega), if_neg (by omega)]
      have hk0 : k = 0 := by omega
      have hF : appendF (MA name ps k) name (ps.getD k []) = ((ps.take (k + 1)).flatten, 0) := by
        rw [hM, take_flat hk, hk0]
        simp [appendF]
      have hM1 : MA name ps (k + 1) = upd (fun _ => none) name (some ((ps.take (k + 1)).flatten, 0)) := if_pos ⟨hn, by omega⟩
      have hN1 : NA name (k + 1) = 1 := if_pos ⟨hn, by omega⟩
      rw [hE, hF, hM1, hN, hN1, hM]
      exact ⟨by rw [if_pos rfl], by simp⟩
  · have hM : ∀ j, MA name ps j = fun _ => none := fun j => if_neg (fun h => hn h.1)
    have hN : ∀ j, NA name j = 0 := fun j => if_neg (fun h => hn h.1)
    have hE : appendE (MA name ps k) (NA name k) name (ps.getD k []) = 40 := if_neg hn
    rw [hE, hM, hM, hN, hN]
    exact ⟨by simp, by simp⟩

/-- two disks, and bytes of the call's own, apart from one another -/
def Two (w wr : World) (v : Value) (l : Bs) (ga gb : Nat) (Ma Mb : Fls) (Na Nb : Nat) : Prop :=
  ∃ Sa Sb : Nat → Prop, DiskOK wr Sa ga Ma Na ∧ DiskOK wr Sb gb Mb Nb ∧ Own wr w.heap.size v l ∧ w.grownBy wr none ∧
    (∀ k, Sa k → w.heap.size ≤ k ∧ k < wr.heap.size ∧ ¬ Sb k ∧ v.ownBlock ≠ some k) ∧ (∀ k, Sb k → w.heap.size ≤ k ∧ k < wr.heap.size ∧ v.ownBlock ≠ some k)
theorem Two.app {w wr wr' : World} {v v' : Value} {l m : Bs} {ga gb Na Nb : Nat} {Ma Mb : Fls} (h : Two w wr v l ga gb Ma Mb Na Nb) (ho : Own wr' w.heap.size v' (l ++ m)) (hf : Fr wr wr' v v') : Two w wr' v' (l ++ m) ga gb Ma Mb Na Nb := by
  obtain ⟨Sa, Sb, ha, hb, hv, hg, h1, h2⟩ := h
  have hc : Ch wr wr' (fun k => v.ownBlock = some k) := Ch.of_gb hf.1 (fun k hk _ => hk)
  have hs := hf.1.size
  have hn : ∀ k, k < wr.heap.size → v.ownBlock ≠ some k → v'.ownBlock ≠ some k := fun k hk hne e => by
    rcases hf.2 k e with h | h
    · exact hne h.symm
    · omega
  refine ⟨Sa, Sb, ha.frame hc (fun k _ hk => (h1 k hk).2.2.2), hb.frame hc (fun k _ hk => (h2 k hk).2.2), ho, gb_new hg hf.1 (fun k hk => (hv.lt k hk).1), fun k hk => ?_, fun k hk => ?_⟩
  · obtain ⟨a, b, c, d⟩ := h1 k hk
    exact ⟨a, by omega, c, hn k b d⟩
  · obtain ⟨a, b, d⟩ := h2 k hk
    exact ⟨a, by omega, hn k b d⟩
theorem Two.setA {w wr wr' : World} {v : Value} {l : Bs} {ga gb Nb Na' : Nat} {Mb Ma' : Fls} {Sa Sb : Nat → Prop} (hb : DiskOK wr Sb gb Mb Nb) (hv : Own wr w.heap.size v l) (hg : w.grownBy wr none)
    (h1 : ∀ k, Sa k → w.heap.size ≤ k ∧ k < wr.heap.size ∧ ¬ Sb k ∧ v.ownBlock ≠ some k) (h2 : ∀ k, Sb k → w.heap.size ≤ k ∧ k < wr.heap.size ∧ v.ownBlock ≠ some k) (hc : Ch wr wr' Sa) (ha : DiskOK wr' (Gr Sa wr wr') ga Ma' Na') : Two w wr' v l ga gb Ma' Mb Na' Nb := by
  have hs := hc.size
  refine ⟨_, Sb, ha, hb.frame hc (fun k _ hk hk' => (h1 k hk').2.2.1 hk), hv.via (fun k hk => hc.block (hv.lt k hk).2 (fun hk' => (h1 k hk').2.2.2 hk)), ?_, fun k hk => ?_, fun k hk => ?_⟩
  · exact ((Ch.of_gb (S := Sa) hg (fun k hk => by cases hk)).trans hc (fun _ _ h => h)).gb (fun k hk h => by have := (h1 k h).1; omega)
  · have := hg.size
    rcases hk with hk | ⟨hk1, hk2⟩
    · obtain ⟨a, b, c, d⟩ := h1 k hk
      exact ⟨a, by omega, c, d⟩
    · exact ⟨by omega, hk2, fun h => by have := (h2 k h).2.1; omega, fun h => by have := (hv.lt k h).2; omega⟩
  · obtain ⟨a, b, d⟩ := h2 k hk
    exact ⟨a, by omega, d⟩
theorem Two.setB {w wr wr' : World} {v : Value} {l : Bs} {ga gb Na Nb' : Nat} {Ma Mb' : Fls} {Sa Sb : Nat → Prop} (ha : DiskOK wr Sa ga Ma Na) (hv : Own wr w.heap.size v l) (hg : w.grownBy wr none)
    (h1 : ∀ k, Sa k → w.heap.size ≤ k ∧ k < wr.heap.size ∧ ¬ Sb k ∧ v.ownBlock ≠ some k) (h2 : ∀ k, Sb k → w.heap.size ≤ k ∧ k < wr.heap.size ∧ v.ownBlock ≠ some k) (hc : Ch wr wr' Sb) (hb : DiskOK wr' (Gr Sb wr wr') gb Mb' Nb') : Two w wr' v l ga gb Ma Mb' Na Nb' := by
  have hs := hc.size
  refine ⟨Sa, _, ha.frame hc (fun k _ hk hk' => (h1 k hk).2.2.1 hk'), hb, hv.via (fun k hk => hc.block (hv.lt k hk).2 (fun hk' => (h2 k hk').2.2 hk)), ?_, fun k hk => ?_, fun k hk => ?_⟩
  · exact ((Ch.of_gb (S := Sb) hg (fun k hk => by cases hk)).trans hc (fun _ _ h => h)).gb (fun k hk h => by have := (h2 k h).1; omega)
  · obtain ⟨a, b, c, d⟩ := h1 k hk
    exact ⟨a, by omega, fun h => h.elim c (fun h => by omega), d⟩
  · have := hg.size
    rcases hk with hk | ⟨hk1, hk2⟩
    · obtain ⟨a, b, d⟩ := h2 k hk
      exact ⟨a, by omega, d⟩
    · exact ⟨by omega, hk2, fun h => by have := (hv.lt k h).2; omega⟩
theorem Two.keep {w wr wr' : World} {v : Value} {l : Bs} {ga gb Na Nb : Nat} {Ma Mb : Fls} (h : Two w wr v l ga gb Ma Mb Na Nb) (hg' : wr.grownBy wr' none) : Two w wr' v l ga gb Ma Mb Na Nb := by
  obtain ⟨Sa, Sb, ha, hb, hv, hg, h1, h2⟩ := h
  have := hg'.size
  exact ⟨Sa, Sb, ha.keep hg', hb.keep hg', hv.keep hg', gb_none hg hg', fun k hk => by obtain ⟨a, b, c⟩ := h1 k hk; exact ⟨a, by omega, c⟩, fun k hk => by obtain ⟨a, b, c⟩ := h2 k hk; exact ⟨a, by omega, c⟩⟩

set_option maxRecDepth 16000 in
set_option maxHeartbeats 6400000 in
theorem appends_walk (name : Bs) (v : Value) (ps : List Bs) (w : World) (hn : name.length ≤ 1048576) (hv : LL w v ps) (hs : ps.flatten.length ≤ 1048576) (hpl : ps.length ≤ 1048576) :
    Calls Try.prog 5 #[.string (ByteArray.mk ⟨name⟩), v] w fun e w' => e = .returned (.bool true) ∧ Below w.heap.size w w' := by
  have HV : Hid (LL w v ps) := hv
  obtain ⟨a, c, rfl, -, -⟩ := hv
  have HS : Hid (ps.flatten.length ≤ 1048576) := hs
  have HN : Hid (name.length ≤ 1048576) := hn
  have hpl2 : (ps.length : Int) ≤ 1048576 := by omega
  generalize hs0 : ByteArray.mk ⟨name⟩ = s0
  have HS0 : Hid (ByteArray.mk ⟨name⟩ = s0) := hs0
  clear hs hn hs0
  generalize hL : ps.length = L at *
  have HL : Hid (ps.length = L) := hL
  clear hL
  go_enter Try.func5, Try.ntmps5
  go_wp2_with fail
  refine (new_ok _).mono ?_
  rintro e w1 ⟨ga, rfl, hd1, hg1⟩
  have H1 : Hid (w.grownBy w1 none ∧ DiskOK w1 (fun k => w.heap.size ≤ k ∧ k < w1.heap.size) ga (fun _ => none) 0) := ⟨hg1, hd1⟩
  clear hd1 hg1
  go_wp2_with fail
  refine (new_ok _).mono ?_
  rintro e w2 ⟨gb, rfl, hd2, hg2⟩
  have H2 : Hid (Two w w2 (.slice none 0 0) [] ga gb (fun _ => none) (fun _ => none) 0 0) := by
    have s1 := H1.out.1.size
    have s2 := hg2.size
    refine ⟨_, _, H1.out.2.keep hg2, hd2, Own.nil _ _, gb_none H1.out.1 hg2, fun k hk => ⟨hk.1, by omega, fun h => by omega, by simp [Value.ownBlock]⟩, fun k hk => ⟨by omega, hk.2, by simp [Value.ownBlock]⟩⟩
  clear hd2 hg2 H1
  go_wp2
  go_loopw [7, 8] (fun u i wr => ∃ k : Nat, k ≤ L ∧ i = .int .i64 (k : Int) ∧ Hid (Two w wr u (ps.take k).flatten ga gb (MA name ps k) (fun _ => none) (NA name k) 0)) (fun _ i _ => L - (intOf i).toNat)
  case atStart =>
    refine ⟨0, by omega, rfl, ?_⟩
    rw [(MA_zero name ps).1, (MA_zero name ps).2]
    exact H2
  case round =>
    obtain ⟨k, hk, rfl, HT⟩ := hrel
    by_cases hkl : k < L
    · obtain ⟨a0, c0, hv0, -, hcells⟩ := HV.out.keep (by obtain ⟨_, _, _, _, _, hg, _⟩ := HT.out; exact hg)
      simp only [Value.slice.injEq] at hv0
      obtain ⟨rfl, -, -⟩ := hv0
      obtain ⟨b, o, up, rfl, hc0, hrp⟩ := hcells k (by rw [HL.out]; exact hkl)
      have HR : Hid (Rd wr up (ps.getD k [])) := hrp
      have HC : Hid (wr.cell? ⟨b, o + k, none⟩ = some up) := hc0
      have HB : Hid ((ps.take k).flatten.length + (ps.getD k []).length ≤ 1048576 ∧ (ps.take (k + 1)).flatten = (ps.take k).flatten ++ ps.getD k []) := by
        have hk' : k < ps.length := by rw [HL.out]; exact hkl
        have := take_le ps (k + 1)
        rw [take_flat hk', List.length_append] at this
        exact ⟨by have := HS.out; omega, take_flat hk'⟩
      have HST := MA_step (name := name) (ps := ps) (k := k) (by rw [HL.out]; exact hkl) HS.out
      have HST2 : Hid ((if appendE (MA name ps k) (NA name k) name (ps.getD k []) = 0 then upd (MA name ps k) name (some (appendF (MA name ps k) name (ps.getD k []))) else MA name ps k) = MA name ps (k + 1) ∧
        (if appendE (MA name ps k) (NA name k) name (ps.getD k []) = 0 ∧ (MA name ps k name).isSome = false then NA name k + 1 else NA name k) = NA name (k + 1)) := HST
      clear hcells hrp HST
      have HO : Hid (Own wr w.heap.size u7 (ps.take k).flatten) := by obtain ⟨_, _, _, _, ho, _⟩ := HT.out; exact ho
      have HZ : Hid (w.heap.size ≤ wr.heap.size) := by obtain ⟨_, _, _, _, _, hg, _⟩ := HT.out; exact hg.size
      obtain ⟨ua, uc, rfl⟩ : ∃ ua uc, up = .slice ua (ps.getD k []).length uc := by
        obtain ⟨ua, uc, h, _⟩ := HR.out
        exact ⟨ua, uc, h⟩
      have hkl2 : (k : Int) < (L : Int) := by omega
      generalize hpc : ps.getD k [] = piece at *
      have HPC : Hid (ps.getD k [] = piece) := hpc
      clear hpc
      go_wp2_with (at_builtin; refine wp_app rfl _ _ rfl w.heap.size _ _ (ps.take k).flatten piece rfl rfl HO.out HR.out ?c1 ?c2 ?_)
      case c1 => have := HB.out.1; omega
      case c2 => exact HZ.out
      intro v1 wr1 ho1 hf1
      obtain ⟨Sa, Sb, ha, hb, hv1, hg1, h1, h2⟩ := HT.out.app ho1 hf1
      obtain ⟨a0, c0', hv0, -, hcells⟩ := HV.out.keep hg1
      simp only [Value.slice.injEq] at hv0
      obtain ⟨rfl, -, -⟩ := hv0
      obtain ⟨b', o', up', hbo, hc1, hrp1⟩ := hcells k (by rw [HL.out]; exact hkl)
      obtain ⟨rfl, rfl⟩ : b = b' ∧ o = o' := by simpa using hbo
      rw [HPC.out] at hrp1
      have HAP : Hid (Calls Try.prog 17 #[.pointer (some ⟨ga, 0, none⟩), .string s0, up'] wr1 fun e w' => e = .returned (.int .i64 (appendE (MA name ps k) (NA name k) name piece : Int)) ∧ Two w w' v1 (ps.take (k + 1)).flatten ga gb (MA name ps (k + 1)) (fun _ => none) (NA name (k + 1)) 0) := by
        show Calls _ _ _ _ _
        rw [← HS0.out]
        refine (append_ok wr1 Sa ga (NA name k) (MA name ps k) name piece up' (by have := HN.out; omega) ha hrp1).mono ?_
        rintro e w' ⟨rfl, hc2, hd2⟩
        rw [HST2.out.1, HST2.out.2] at hd2
        refine ⟨rfl, ?_⟩
        rw [HB.out.2]
        exact Two.setA hb hv1 hg1 h1 h2 hc2 hd2
      obtain ⟨a1', c1', hsh⟩ := ho1.shape
      clear hrp1 hcells hbo ho1 hf1 ha hb hv1 hg1 h1 h2 HB HST2 HO HZ HR HC HPC HT hc0
      generalize appendE (MA name ps k) (NA name k) name piece = E at *
      clear hsh
      go_wp2_with fail
      refine HAP.out.mono ?_
      rintro e wr2 ⟨rfl, hT2⟩
      have HT2 : Hid (Two w wr2 v1 (ps.take (k + 1)).flatten ga gb (MA name ps (k + 1)) (fun _ => none) (NA name (k + 1)) 0) := hT2
      clear hT2 hc1 HAP
      go_wp2
      go_roundw
      case rel => exact ⟨k + 1, by omega, by go_num, HT2⟩
      case measure => simp [intOf]; omega
    · have hkL : k = L := by omega
      have HT2 : Hid (Two w wr u7 ps.flatten ga gb (MA name ps L) (fun _ => none) (NA name L) 0) := by
        have := HT.out
        rw [hkL, List.take_of_length_le (by rw [HL.out]; exact Nat.le_refl _)] at this
        exact this
      clear HT
      obtain ⟨Sa, Sb, ha, hb, hv1, hg1, h1, h2⟩ := HT2.out
      obtain ⟨a7, c7, rfl⟩ := hv1.shape
      have hsz : ¬ (1048576 : Int) < (ps.flatten.length : Int) := by have := HS.out; omega
      have HAl : Hid (DiskOK wr Sa ga (MA name ps L) (NA name L) ∧ DiskOK wr Sb gb (fun _ => none) 0 ∧ Own wr w.heap.size (.slice a7 ps.flatten.length c7) ps.flatten ∧ w.grownBy wr none ∧ (∀ k, Sa k → w.heap.size ≤ k ∧ k < wr.heap.size ∧ ¬ Sb k ∧ (Value.slice a7 ps.flatten.length c7).ownBlock ≠ some k) ∧ (∀ k, Sb k → w.heap.size ≤ k ∧ k < wr.heap.size ∧ (Value.slice a7 ps.flatten.length c7).ownBlock ≠ some k)) := ⟨ha, hb, hv1, hg1, h1, h2⟩
      clear ha hb hv1 hg1 h1 h2 HT2
      by_cases hL0 : L = 0
      · have hL1 : ((L : Int) == 0) = true := by rw [beq_iff_eq]; omega
        have HGr : Hid (w.grownBy wr none) := HAl.out.2.2.2.1
        clear HAl HV HS HL
        generalize ps.flatten.length = Z at *
        clear hL0 hkL
        go_wp2_with fail
        refine (known_any _).mono ?_
        rintro e w9 ⟨rfl, hg9⟩
        have H9 : Hid (Below w.heap.size w w9) := gb_below (gb_none HGr.out hg9)
        clear hg9
        go_wp2
        go_ret
        exact ⟨rfl, H9.out⟩
      · have hL1 : ((L : Int) == 0) = false := by rw [beq_eq_false_iff_ne]; omega
        have HAP : Hid (Calls Try.prog 17 #[.pointer (some ⟨gb, 0, none⟩), .string s0, .slice a7 ps.flatten.length c7] wr fun e w' => e = .returned (.int .i64 (appendE (fun _ => none) 0 name ps.flatten : Int)) ∧ Two w w' (.slice a7 ps.flatten.length c7) ps.flatten ga gb (MA name ps L) (if appendE (fun _ => none) 0 name ps.flatten = 0 then upd (fun _ => none) name (some (ps.flatten, 0)) else (fun _ => none)) (NA name L) (if appendE (fun _ => none) 0 name ps.flatten = 0 ∧ true then 1 else 0)) := by
          show Calls _ _ _ _ _
          rw [← HS0.out]
          refine (append_ok wr Sb gb 0 (fun _ => none) name ps.flatten _ (by have := HN.out; omega) HAl.out.2.1 HAl.out.2.2.1.rd).mono ?_
          rintro e w' ⟨rfl, hc2, hd2⟩
          refine ⟨rfl, ?_⟩
          refine Two.setB HAl.out.1 HAl.out.2.2.1 HAl.out.2.2.2.1 HAl.out.2.2.2.2.1 HAl.out.2.2.2.2.2 hc2 ?_
          simpa [appendF] using hd2
        have hML : MA name ps L = if nameOk name = true then upd (fun _ => none) name (some (ps.flatten, 0)) else (fun _ => none) := by
          unfold MA
          rw [List.take_of_length_le (by rw [HL.out]; exact Nat.le_refl _)]
          by_cases h : nameOk name = true
          · rw [if_pos ⟨h, by omega⟩, if_pos h]
          · rw [if_neg (fun h' => h h'.1), if_neg h]
        have HRN : Hid (∀ w', Calls Try.prog 24 #[.string s0] w' fun e w'' => e = .returned (.bool (nameOk name)) ∧ w'' = w') := fun w' => by
          rw [← HS0.out]
          exact refName_any name w' (by have := HN.out; omega)
        have HRD : Hid (∀ (w' : World) (S : Nat → Prop) (g N : Nat) (M : Fls), DiskOK w' S g M N → Calls Try.prog 21 #[.pointer (some ⟨g, 0, none⟩), .string s0] w' fun e w'' => ∃ v, e = .returned (.tuple #[v, .int .i64 (findE M name : Int)]) ∧ Own w'' w'.heap.size v (bytesOf M name) ∧ w'.grownBy w'' none) := fun w' S g N M h => by
          rw [← HS0.out]
          exact read_ok w' S g N M name (by have := HN.out; omega) h
        have HZl : Hid (ps.flatten.length ≤ 1048576) := HS.out
        clear HAl HV HS HL hL0 hkL
        by_cases hnk : nameOk name = true
        · have hE : appendE (fun _ => none) 0 name ps.flatten = 0 := by
            have := HZl.out
            simp only [appendE, hnk, if_true]
            rw [if_neg (by omega), if_neg (by omega)]
          rw [hE] at HAP
          rw [if_pos hnk] at hML
          rw [hML] at HAP
          simp only [if_true, and_self] at HAP
          have HNk : Hid (nameOk name = true) := hnk
          clear hE hML hnk
          generalize hfl : ps.flatten = fl at *
          clear hfl
          go_wp2_with fail
          refine HAP.out.mono ?_
          rintro e w3 ⟨rfl, hT3⟩
          have HT3 : Hid (Two w w3 (.slice a7 fl.length c7) fl ga gb (upd (fun _ => none) name (some (fl, 0))) (upd (fun _ => none) name (some (fl, 0))) (NA name L) 1) := hT3
          clear hT3 HAP
          obtain ⟨Sa3, Sb3, ha3, hb3, hv3, hg3, h13, h23⟩ := HT3.out
          have HR1 := HRD.out w3 Sa3 ga _ _ ha3
          rw [findE_some HNk.out (upd_same _ _ _), show bytesOf (upd (fun _ => none) name (some (fl, 0))) name = fl from by simp [bytesOf, upd_same]] at HR1
          have HR1' : Hid (Calls Try.prog 21 #[.pointer (some ⟨ga, 0, none⟩), .string s0] w3 fun e w'' => ∃ v, e = .returned (.tuple #[v, .int .i64 ((0 : Nat) : Int)]) ∧ Own w'' w3.heap.size v fl ∧ w3.grownBy w'' none) := HR1
          clear HR1 ha3 hb3 hv3 hg3 h13 h23
          go_wp2_with fail
          refine HR1'.out.mono ?_
          rintro e w4 ⟨x4, rfl, ho4, hg4⟩
          have HT4 : Hid (Two w w4 (.slice a7 fl.length c7) fl ga gb (upd (fun _ => none) name (some (fl, 0))) (upd (fun _ => none) name (some (fl, 0))) (NA name L) 1 ∧ Own w4 w3.heap.size x4 fl) := ⟨HT3.out.keep hg4, ho4⟩
          clear ho4 hg4 HR1' HT3
          obtain ⟨Sa4, Sb4, ha4, hb4, hv4, hg4, h14, h24⟩ := HT4.out.1
          have HR2 := HRD.out w4 Sb4 gb _ _ hb4
          rw [findE_some HNk.out (upd_same _ _ _), show bytesOf (upd (fun _ => none) name (some (fl, 0))) name = fl from by simp [bytesOf, upd_same]] at HR2
          have HR2' : Hid (Calls Try.prog 21 #[.pointer (some ⟨gb, 0, none⟩), .string s0] w4 fun e w'' => ∃ v, e = .returned (.tuple #[v, .int .i64 ((0 : Nat) : Int)]) ∧ Own w'' w4.heap.size v fl ∧ w4.grownBy w'' none) := HR2
          clear HR2 ha4 hb4 hv4 hg4 h14 h24
          go_wp2_with fail
          refine HR2'.out.mono ?_
          rintro e w5 ⟨x5, rfl, ho5, hg5⟩
          have HT5 : Hid (Two w w5 (.slice a7 fl.length c7) fl ga gb (upd (fun _ => none) name (some (fl, 0))) (upd (fun _ => none) name (some (fl, 0))) (NA name L) 1 ∧ Rd w5 x4 fl ∧ Rd w5 x5 fl) := ⟨HT4.out.1.keep hg5, (HT4.out.2.keep hg5).rd, ho5.rd⟩
          clear ho5 hg5 HR2' HT4
          go_wp2_with fail
          refine (HRN.out _).mono ?_
          rintro e w6 ⟨rfl, hw6⟩
          rw [hw6, HNk.out]
          clear hw6 w6
          go_wp2_with fail
          refine (same_any x4 x5 fl fl _ HT5.out.2.1 HT5.out.2.2).mono ?_
          rintro e w7 ⟨he, hg7⟩
          have hd : decide (fl = fl) = true := by simp
          rw [hd] at he
          subst he
          have HT7 : Hid (Two w w7 (.slice a7 fl.length c7) fl ga gb (upd (fun _ => none) name (some (fl, 0))) (upd (fun _ => none) name (some (fl, 0))) (NA name L) 1 ∧ Rd w7 x4 fl) := ⟨HT5.out.1.keep hg7, HT5.out.2.1.keep hg7⟩
          clear hg7 hd HT5
          have HO7 : Hid (Rd w7 (.slice a7 fl.length c7) fl ∧ w.grownBy w7 none) := by obtain ⟨_, _, _, _, ho, hg, _⟩ := HT7.out.1; exact ⟨ho.rd, hg⟩
          go_wp2_with fail
          refine (same_any x4 _ fl fl _ HT7.out.2 HO7.out.1).mono ?_
          rintro e w8 ⟨he, hg8⟩
          have hd : decide (fl = fl) = true := by simp
          rw [hd] at he
          subst he
          have HO8 : Hid (w.grownBy w8 none) := gb_none HO7.out.2 hg8
          clear hg8 hd HT7 HO7
          go_wp2_with fail
          refine (known_any _).mono ?_
          rintro e w9 ⟨rfl, hg9⟩
          have H9 : Hid (Below w.heap.size w w9) := gb_below (gb_none HO8.out hg9)
          clear hg9
          go_wp2
          go_ret
          exact ⟨rfl, H9.out⟩
        · have hnk' : nameOk name = false := by simpa using hnk
          have hE : appendE (fun _ => none) 0 name ps.flatten = 40 := by simp [appendE, hnk']
          rw [hE] at HAP
          rw [if_neg hnk] at hML
          rw [hML] at HAP
          have HAP2 : Hid (Calls Try.prog 17 #[.pointer (some ⟨gb, 0, none⟩), .string s0, .slice a7 ps.flatten.length c7] wr fun e w' => e = .returned (.int .i64 ((40 : Nat) : Int)) ∧ Two w w' (.slice a7 ps.flatten.length c7) ps.flatten ga gb (fun _ => none) (fun _ => none) (NA name L) 0) := HAP.out.mono (fun e w' h => ⟨h.1, by simpa using h.2⟩)
          have HNk : Hid (nameOk name = false) := hnk'
          clear hE hML hnk hnk' HAP
          generalize hfl : ps.flatten = fl at *
          clear hfl
          go_wp2_with fail
          refine HAP2.out.mono ?_
          rintro e w3 ⟨rfl, hT3⟩
          have HT3 : Hid (Two w w3 (.slice a7 fl.length c7) fl ga gb (fun _ => none) (fun _ => none) (NA name L) 0) := hT3
          clear hT3 HAP2
          obtain ⟨Sa3, Sb3, ha3, hb3, hv3, hg3, h13, h23⟩ := HT3.out
          have HR1 := HRD.out w3 Sa3 ga _ _ ha3
          rw [findE_bad HNk.out] at HR1
          have HR1' : Hid (Calls Try.prog 21 #[.pointer (some ⟨ga, 0, none⟩), .string s0] w3 fun e w'' => ∃ v, e = .returned (.tuple #[v, .int .i64 ((40 : Nat) : Int)]) ∧ Own w'' w3.heap.size v [] ∧ w3.grownBy w'' none) := HR1
          clear HR1 ha3 hb3 hv3 hg3 h13 h23
          go_wp2_with fail
          refine HR1'.out.mono ?_
          rintro e w4 ⟨x4, rfl, -, hg4⟩
          have HT4 : Hid (Two w w4 (.slice a7 fl.length c7) fl ga gb (fun _ => none) (fun _ => none) (NA name L) 0) := HT3.out.keep hg4
          clear hg4 HR1' HT3
          obtain ⟨Sa4, Sb4, ha4, hb4, hv4, hg4, h14, h24⟩ := HT4.out
          have HR2 := HRD.out w4 Sb4 gb _ _ hb4
          rw [findE_bad HNk.out] at HR2
          have HR2' : Hid (Calls Try.prog 21 #[.pointer (some ⟨gb, 0, none⟩), .string s0] w4 fun e w'' => ∃ v, e = .returned (.tuple #[v, .int .i64 ((40 : Nat) : Int)]) ∧ Own w'' w4.heap.size v [] ∧ w4.grownBy w'' none) := HR2
          clear HR2 ha4 hb4 hv4 hg4 h14 h24
          go_wp2_with fail
          refine HR2'.out.mono ?_
          rintro e w5 ⟨x5, rfl, -, hg5⟩
          have HT5 : Hid (w.grownBy w5 none) := by obtain ⟨_, _, _, _, _, hg, _⟩ := HT4.out.keep hg5; exact hg
          clear hg5 HR2' HT4
          go_wp2_with fail
          refine (HRN.out _).mono ?_
          rintro e w6 ⟨rfl, hw6⟩
          rw [hw6, HNk.out]
          clear hw6 w6
          go_wp2_with fail
          refine (known_any _).mono ?_
          rintro e w9 ⟨rfl, hg9⟩
          have H9 : Hid (Below w.heap.size w w9) := gb_below (gb_none HT5.out hg9)
          clear hg9
          go_wp2
          go_ret
          exact ⟨rfl, H9.out⟩

set_option maxRecDepth 100000 in
theorem appends_contract (H : Type) (enc : TypeId × Value → H) (W : World) (base : Nat) (args : Array Value) (ds gs : List (DataW H)) (before : List MemPlace)
    (hval : ∀ (j : Nat) t v, Try.f5.params[j]? = some t → args[j]? = some v → Value.okWide Try.prog W .any base t v)
    (hW : DataW.Whole enc Try.prog Try.f5.params.toList Rows.diskAppendsSpec.vars false W args.toList ds gs before) (hk : Rows.uptoBulkAll (ds ++ gs) ≤ 1048576) :
    Calls Try.prog 5 args W fun e W' => ∃ v, e = .returned v ∧ Rows.diskAppendsSpec.post enc Try.prog Try.f5 false true false false W args v W' := by
  have hW' := hW
  obtain ⟨p, q, hA0, hV, rfl, hfz, hnd⟩ := hW
  have hA : DataW.TrodAll enc Try.prog W 0 (fun _ => true) true Try.f5.params.toList args.toList ds p := hA0
  rw [Try.params5] at hA hval
  obtain ⟨v0, vs0, d0, ds0, p0, q0, hargs, rfl, rfl, h0, r0⟩ := trodAll_cons hA
  obtain ⟨v1, vs1, d1, ds1, p1, q1, rfl, rfl, rfl, h1, r1⟩ := trodAll_cons r0
  obtain ⟨rfl, rfl, rfl⟩ := trodAll_nil r1
  obtain rfl : args = #[v0, v1] := by cases args; simp_all
  obtain ⟨rfl, rfl⟩ := trodVars_none hV
  obtain ⟨t0, rfl, rfl, rfl, wz0⟩ := Go.ChangeMaps.open_string Try.underlying9 (hval 0 9 v0 rfl rfl) h0
  obtain ⟨l1, o1, s1, n1⟩ := open_llB (hval 1 52 v1 rfl rfl) h1
  clear hA0
  simp only [List.append_nil, Rows.uptoBulkAll] at hk
  refine (appends_walk t0.data.toList v1 l1 W (by simp only [Rows.uptoBulk] at hk; omega) o1 (by rw [flat_len]; omega) (by omega)).mono fun e W' ⟨he, bel⟩ => ?_
  subst he
  exact ⟨_, rfl, _, _, _, [], _, [], hW', trodAll_mk1 (shut_bool Try.underlying4 _), (trodAll_cons_mk (Go.ChangeMaps.shut_string Try.underlying9 wz0) (trodAll_cons_mk (back_ll h1 bel) trodAll_mk0)), rfl, bel.frame _, fun h => by cases h⟩

set_option maxRecDepth 100000 in
theorem appends_reads (os : Os) {H : Type} (enc : TypeId × Value → H) : ∃ places, DataW.whole enc Try.prog ((laidWorld os).forCall (fun _ _ => 0) ⟨#[], #[.string .empty, .slice none 0 0], []⟩).memory Try.f5.params.toList Rows.diskAppendsSpec.vars false #[Value.string ByteArray.empty, Value.slice none 0 0].toList 8 = some ([.lit (.string []), .nil], [], places) :=
  ⟨[], by kernel_rfl⟩

set_option maxRecDepth 100000 in
theorem appends_lifted (os : Os) (started : os.Started) (H : Type) (enc : TypeId × Value → H) (F : Stop.Interp) :
    ReturnsInHanded {} Try.checked os 5 .any ((Rows.OpenSpec.upto Rows.diskAppendsSpec).preRow enc Try.prog Try.f5 Rows.diskAppendsUptoRow.domain false Rows.diskAppendsUptoRow.laid) (((Rows.OpenSpec.upto Rows.diskAppendsSpec).at F).post enc Try.prog Try.f5 false true false false) := by
  obtain ⟨places, hx⟩ := appends_reads os enc
  refine returnsInHanded_of_row (C := Try.checked) (s := (Rows.OpenSpec.upto Rows.diskAppendsSpec)) own started (by kernel_rfl) Try.func5
    (witness_row_at (enc := enc) (C := Try.checked) false (laidWorld os) #[.string .empty, .slice none 0 0] rfl (by kernel_rfl) (by kernel_rfl) (by kernel_rfl)
      (OpenSpec.preRow_of_cond 8 hx (by kernel_rfl) (fun k hk => by cases hk; kernel_rfl) (by kernel_rfl) (laidMet_of_run' 8 (by kernel_rfl) (by kernel_rfl)))) ?_
  intro W base args ds gs before hval hW _ hcond _ _ _ _
  exact appends_contract H enc W base args ds gs before hval hW (of_decide_eq_true (hcond _ rfl))

set_option maxRecDepth 100000 in
theorem appends_said : Rows.DiskAppendsUptoSaid :=
  OpenClaim.holds_of_cond 5 Try.f5 rfl rfl rfl rfl rfl rfl rfl ⟨rfl, rfl, rfl, rfl, rfl⟩ rfl rfl rfl rfl rfl (by kernel_rfl) Try.func5 (by kernel_rfl)
    (of_decide_eq_true (by kernel_rfl)) (by unfold Func.isWrapper; first | (rw [if_pos (by decide +kernel)]; kernel_rfl) | (rw [if_neg (by decide +kernel)]; exact ⟨rfl, rfl⟩))
    (fun os started H enc _ F => by rw [OpenClaim.pre_eq_preRow]; exact appends_lifted os started H enc F)

/-- THE STATEMENT -/
theorem diskAppends_holds : Rows.DiskAppendsUptoSaid := appends_said
end Go.Proofs.Yticikbioampndaa
