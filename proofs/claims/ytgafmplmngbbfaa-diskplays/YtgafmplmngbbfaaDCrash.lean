/-
  The law's crash: a list of one's own is handed to Crash, and stays: the walk.
-/
import Derived.Test.YtgafmplmngbbfaaDTexts
namespace Go.Proofs.Ytgafmplmngbbfaa
open Go.RowKit Go.Maps Go.WideMaps Go.Sort

theorem infoK : (Try.prog.info? 80).map (fun i => (i.zero, i.size, i.bytes)) = some (some (.agg #[.string ⟨#[]⟩, .int .i64 0]), 2, 24) := by kernel_rfl
def kpc (k : Kp) : List Value := [.string (ByteArray.mk ⟨k.name⟩), .int .i64 k.n]
def kpf (ks : List Kp) : List Value := ks.flatMap kpc
theorem kpf_len (ks : List Kp) : (kpf ks).length = ks.length * 2 := by
  induction ks with
  | nil => rfl
  | cons o ks ih =>
    have : kpf (o :: ks) = kpc o ++ kpf ks := rfl
    rw [this, List.length_append, ih]
    simp [kpc]
    omega
theorem kpf_append (a b : List Kp) : kpf (a ++ b) = kpf a ++ kpf b := by simp [kpf]
theorem kpf_get (ks : List Kp) : ∀ j f, j < ks.length → f < 2 → (kpf ks)[j * 2 + f]? = (kpc (ks.getD j kpZ))[f]? := by
  induction ks with
  | nil => intro j f hj; simp at hj
  | cons o ks ih =>
    intro j f hj hf
    have e : kpf (o :: ks) = kpc o ++ kpf ks := rfl
    have hl : (kpc o).length = 2 := rfl
    rw [e]
    cases j with
    | zero =>
      rw [Nat.zero_mul, Nat.zero_add, List.getElem?_append_left (by omega)]
      rfl
    | succ j =>
      rw [List.getElem?_append_right (by omega), hl]
      have e2 : (j + 1) * 2 + f - 2 = j * 2 + f := by omega
      rw [e2, ih j f (by simpa using hj) hf]
      rfl
theorem kpf_one (ks : List Kp) : ∀ u ∈ kpf ks, u.oneCell' = true := by
  intro u hu
  obtain ⟨q, _, hu⟩ := List.mem_flatMap.1 hu
  simp only [kpc, List.mem_cons, List.not_mem_nil, or_false] at hu
  rcases hu with rfl | rfl <;> rfl
/-- the cells of a list of keeps, as append reads them -/
theorem KpsIn.rdc {w : World} {a : Option Addr} {n c : Nat} {ks : List Kp} (h : KpsIn w (.slice a n c) ks) : RdC w a (kpf ks) := by
  obtain ⟨a', c', hv, h2, h3⟩ := h
  simp only [Value.slice.injEq] at hv
  obtain ⟨rfl, rfl, rfl⟩ := hv
  intro j u hj
  have hjl : j < ks.length * 2 := by rw [← kpf_len]; exact (List.getElem?_eq_some_iff.1 hj).1
  have hq : j / 2 < ks.length := by omega
  obtain ⟨_, _, b, o, rfl, c0, c1⟩ := h3 (j / 2) hq
  refine ⟨_, rfl, ?_⟩
  rw [Go.WideShapes.add_plain]
  have hjd : j = j / 2 * 2 + j % 2 := by omega
  rw [hjd, kpf_get ks (j / 2) (j % 2) hq (by omega)] at hj
  rcases Nat.mod_two_eq_zero_or_one j with h0 | h0
  · rw [h0] at hj
    have e : o + j = o + j / 2 * 2 := by omega
    rw [e, c0]
    simpa [kpc] using hj
  · rw [h0] at hj
    have e : o + j = o + j / 2 * 2 + 1 := by omega
    rw [e, c1]
    simpa [kpc] using hj
/-- a list of keeps of one's own, its head -/
theorem own_kps {w : World} {g cap n base : Nat} {ks ms : List Kp} (h : w.ownsRow base 80 2 (.slice (some ⟨g, 0, none⟩) n cap) n (kpf (ks ++ ms))) (hm : ks.length ≤ maxLen) (hk : ∀ j, j < ks.length → (ks.getD j kpZ).name.length ≤ maxLen ∧ (Lit.int .i64 (ks.getD j kpZ).n).wf = true) : KpsIn w (.slice (some ⟨g, 0, none⟩) ks.length cap) ks := by
  refine ⟨_, _, rfl, hm, fun j hj => ⟨(hk j hj).1, (hk j hj).2, g, 0, rfl, ?_, ?_⟩⟩
  · have hc := World.ownsRow.cells h rfl (j * 2) (.string (ByteArray.mk ⟨(ks.getD j kpZ).name⟩)) (by
      rw [kpf_append, List.getElem?_append_left (by rw [kpf_len]; omega)]
      have := kpf_get ks j 0 hj (by omega)
      simpa [kpc] using this)
    rw [Go.WideShapes.add_plain] at hc
    simpa using hc
  · have hc := World.ownsRow.cells h rfl (j * 2 + 1) (.int .i64 (ks.getD j kpZ).n) (by
      rw [kpf_append, List.getElem?_append_left (by rw [kpf_len]; omega)]
      have := kpf_get ks j 1 hj (by omega)
      simpa [kpc] using this)
    rw [Go.WideShapes.add_plain] at hc
    simpa [Nat.add_assoc] using hc

def kpB : Kp := ⟨[98, 101, 104, 105, 110, 100], 0⟩

/-! ### append onto a row of the call's own, as long as one can be -/
theorem run_appH (w : World) (ty T E : TypeId) (i0 : TypeInfo) (z : Value) (size bytes base : Nat) (hT : Try.prog.underlying T = some (.slice E)) (hi : Try.prog.info? E = some i0) (hz0 : i0.zero = some z) (hz1 : i0.size = size) (hz2 : i0.bytes = bytes) (hzs : z.cells.size = size) (hpos : 0 < size)
    (v : Value) (n : Nat) (xs : List Value) (hown : w.ownsRow base E size v n xs) (a : Option Addr) (m c : Nat) (news : List Value) (hl : news.length = m * size) (hra : RdC w a news) (hnil : a = none → m = 0 ∧ c = 0) (h1 : ∀ u ∈ news, u.oneCell' = true)
    (hsz : n + m ≤ 9223372036854775807) (hszb : (n + m + (n + m) / 4 + 192) * bytes ≤ 281474976710656) (hbase : base ≤ w.heap.size) :
    ∃ v' w', (Builtin.append_ #[T, T] ty #[v, .slice a m c]).run Try.prog w = .ok v' w' ∧ w'.ownsRow base E size v' (n + m) (xs ++ news) ∧ Fr w w' v v' := by
  cases a with
  | none =>
    obtain ⟨rfl, rfl⟩ := hnil rfl
    have hn0 : news = [] := List.eq_nil_of_length_eq_zero (by omega)
    subst hn0
    refine ⟨v, w, run_append_owned_none w base T ty E i0 size hT hi v n _ hown, by simpa using hown, Fr.refl _ _⟩
  | some ad =>
    have hcell : ∀ j u, news[j]? = some u → w.cell? (ad.add j) = some u := fun j u hj => by
      obtain ⟨ad', e, hc⟩ := hra j u hj
      cases e
      exact hc
    obtain ⟨v', w', hr, ho, hg, hiff⟩ := run_append_own_wide (P := Try.prog) w base T ty E i0 z size bytes hT hi hz0 hz1 hz2 hzs hpos v n xs hown
      ad m c news hl hcell h1 (by unfold maxLen; omega) hszb hbase
    refine ⟨v', w', hr, ho, hg, ?_⟩
    intro k hk
    rcases hown.2 with ⟨rfl, hn⟩ | ⟨g, cap, cur, rfl, hbg, hh, hnc, hcm', hcs, htake⟩
    · by_cases hm0 : m = 0
      · have := hiff.2 ⟨rfl, hm0⟩
        subst this
        simp [Value.ownBlock] at hk
      · subst hn
        have hb2 : m * bytes ≤ (0 + m + (0 + m) / 4 + 192) * bytes := Nat.mul_le_mul_right _ (by omega)
        have hn' := run_append_nil (P := Try.prog) w T ty E i0 z hT hi hz0 ad m c news (by rw [hz1]; exact hl) hcell (by omega) (by omega) (by rw [hz2]; omega)
        rw [hr] at hn'
        injection hn' with e1 e2
        subst e1
        simp [Value.ownBlock] at hk
        exact .inr (by omega)
    · by_cases hroom : n + m ≤ cap
      · have hn' := run_append_room (P := Try.prog) w T ty E i0 hT hi g n cap cur hh ad m c news (by rw [hz1]; exact hl) hcell h1 hroom (by rw [hz1, hl, hcs]; exact (by rw [← Nat.add_mul]; exact Nat.mul_le_mul_right _ hroom))
        rw [hr] at hn'
        injection hn' with e1 e2
        subst e1
        exact .inl (by simpa [Value.ownBlock] using hk.symm)
      · have hn' := run_append_grow (P := Try.prog) w T ty E i0 z hT hi hz0 ⟨g, 0, none⟩ n cap xs (by rw [hz1]; exact hown.1) (World.ownsRow.cells hown rfl) ad m c news (by rw [hz1]; exact hl) hcell (by omega) (by omega) (by rw [hz2]; exact growslice_fits_wide (by omega) hszb)
        rw [hr] at hn'
        injection hn' with e1 e2
        subst e1
        simp [Value.ownBlock] at hk
        exact .inr (by omega)
theorem wp_appH {w : World} {ops : Array Oper} {rest : List Oper} {o : Oper} {a : Act} {Q : Exit → Act → World → Prop} (hgd : o.guard = none) (s x : Operand) (T E : TypeId)
    (ho : o.op = .call { callee := .builtin .append, args := #[s, x], argTypes := #[T, T] })
    (i0 : TypeInfo) (z : Value) (size bytes base : Nat) (hT : Try.prog.underlying T = some (.slice E)) (hi : Try.prog.info? E = some i0) (hz0 : i0.zero = some z) (hz1 : i0.size = size) (hz2 : i0.bytes = bytes) (hzs : z.cells.size = size) (hpos : 0 < size)
    (v : Value) (n : Nat) (xs : List Value) (ad : Option Addr) (m c : Nat) (news : List Value) (hs : a.eval s = v) (hx : a.eval x = .slice ad m c) (hown : w.ownsRow base E size v n xs) (hl : news.length = m * size) (hra : RdC w ad news) (hnil : ad = none → m = 0 ∧ c = 0) (h1 : ∀ u ∈ news, u.oneCell' = true)
    (hsz : n + m ≤ 9223372036854775807) (hszb : (n + m + (n + m) / 4 + 192) * bytes ≤ 281474976710656) (hbase : base ≤ w.heap.size)
    (h : ∀ v' w', w'.ownsRow base E size v' (n + m) (xs ++ news) → Fr w w' v v' → wpList Try.prog ops Q rest (a.put o.dst v') w') : wpList Try.prog ops Q (o :: rest) a w := by
  refine wpList_plain hgd fun K hK => ?_
  obtain ⟨v', w', hrun, h2, h3⟩ := run_appH w o.type T E i0 z size bytes base hT hi hz0 hz1 hz2 hzs hpos v n xs hown ad m c news hl hra hnil h1 hsz hszb hbase
  unfold Oper.wp execOp
  simp only [ho, resolve, invoke, builtin, Sem.run_bind, Sem.run_pure, Result.andThen_ok, List.map_toArray, List.map_cons, List.map_nil, hs, hx, hrun]
  exact hK _ _ (h v' w' h2 h3)

set_option maxRecDepth 8000 in
set_option maxHeartbeats 3200000 in
theorem crashL_any (w : World) (S : Nat → Prop) (gd N : Nat) (M : Fls) (va : Option Addr) (vc : Nat) (ks : List Kp) (hS : ∀ k, S k → k < w.heap.size) (h : DiskOK w S gd M N) (hv : KpsIn w (.slice va ks.length vc) ks) (hnil : va = none → vc = 0) (hL : ks.length ≤ 5864062014634) (hdis : ks ≠ [] → ∀ k, (Value.slice va ks.length vc).ownBlock = some k → ¬ S k) :
    Calls Try.prog 39 #[.pointer (some ⟨gd, 0, none⟩), .slice va ks.length vc] w fun e w' => Ch w w' S ∧ ((KpOk ks ∧ e = .returned (.tuple #[.int .i64 0, .bool true]) ∧ DiskOK w' (Gr S w w') gd (crashM M ks (fun _ => false)) N) ∨ (¬ KpOk ks ∧ e = .returned (.tuple #[.int .i64 1, .bool true]) ∧ DiskOK w' (Gr S w w') gd M N)) := by
  obtain ⟨i0, hi, hz0, hz1, hz2⟩ := info_parts infoK
  have HV : Hid (KpsIn w (.slice va ks.length vc) ks ∧ (va = none → vc = 0) ∧ ks.length ≤ 5864062014634 ∧ (ks ≠ [] → ∀ k, (Value.slice va ks.length vc).ownBlock = some k → ¬ S k) ∧ (∀ k, S k → k < w.heap.size) ∧ DiskOK w S gd M N) := ⟨hv, hnil, hL, hdis, hS, h⟩
  clear hv hnil hdis hS h
  generalize hKL : ks.length = KL at *
  have HKL : Hid (ks.length = KL) := hKL
  clear hKL
  go_enter Try.func39, Try.ntmps39
  go_wp2_with (at_builtin; refine wp_appH rfl _ _ 32 80 rfl i0 _ 2 24 0 Try.underlying32 hi hz0 hz1 hz2 rfl (by decide) _ 0 [] va KL vc (kpf ks) rfl rfl (World.ownsRow_nil _ _ _ _) ?a1 ?a2 ?a3 ?a4 ?a5 ?a7 ?a6 ?_)
  case a1 => rw [kpf_len, HKL.out]
  case a2 => exact HV.out.1.rdc
  case a3 =>
    intro e
    refine ⟨?_, HV.out.2.1 e⟩
    obtain ⟨a', c', hv, _, h3⟩ := HV.out.1
    simp only [Value.slice.injEq] at hv
    by_cases h0 : KL = 0
    · exact h0
    · obtain ⟨_, _, b, o, hb, _⟩ := h3 0 (by rw [HKL.out]; omega)
      rw [← hv.1, e] at hb
      cases hb
  case a4 => exact kpf_one ks
  case a5 => have := HV.out.2.2.1; omega
  case a7 => have := HV.out.2.2.1; omega
  case a6 => exact Nat.zero_le _
  intro v1 w1 ho1 hf1
  have H1 : Hid (w1.ownsRow 0 80 2 v1 KL (kpf ks) ∧ w.grownBy w1 none ∧ ∀ b, v1.ownBlock = some b → w.heap.size ≤ b) := ⟨by simpa using ho1, hf1.1, fun b hb => by
    rcases hf1.2 b hb with h | h
    · simp [Value.ownBlock] at h
    · exact h⟩
  clear ho1 hf1
  go_wp2_with (at_builtin; refine wp_appH rfl _ _ 32 80 rfl i0 _ 2 24 0 Try.underlying32 hi hz0 hz1 hz2 rfl (by decide) _ KL (kpf ks) (some ⟨w1.heap.size, 0, none⟩) 1 1 (kpf [kpB]) rfl rfl (World.ownsRow.alloc H1.out.1 _) ?b1 ?b2 ?b3 ?b4 ?b5 ?b7 ?b6 ?_)
  case b1 => rfl
  case b2 =>
    intro j u hj
    refine ⟨_, rfl, ?_⟩
    rw [Go.WideShapes.add_plain]
    have ha := alloc_at w1 (.cells #[.string { data := #[98, 101, 104, 105, 110, 100] }, .int .i64 0] 80)
    simp only [World.cell?, ha]
    simpa [kpf, kpc, kpB] using hj
  case b3 => intro h; cases h
  case b4 => exact kpf_one _
  case b5 => have := HV.out.2.2.1; omega
  case b7 => have := HV.out.2.2.1; omega
  case b6 => exact Nat.zero_le _
  intro v2 w2 ho2 hf2
  have hg2 : w.grownBy w2 none := gb_new (gb_none H1.out.2.1 (World.grownBy_alloc _ _ none)) hf2.1 (fun b hb => by have := H1.out.2.2 b hb; omega)
  have hnb2 : ∀ b, v2.ownBlock = some b → w.heap.size ≤ b := fun b hb => by
    rcases hf2.2 b hb with h | h
    · exact H1.out.2.2 b h.symm
    · have := H1.out.2.1.size; simp at h; omega
  rw [← kpf_append] at ho2
  obtain ⟨g, cap, hv2, hcap, hcm⟩ : ∃ g cap, v2 = .slice (some ⟨g, 0, none⟩) (KL + 1) cap ∧ KL + 1 ≤ cap ∧ cap ≤ maxLen := by
    rcases ho2.2 with ⟨_, h⟩ | ⟨g, cap, cur, h, _, _, h1, h2, _⟩
    · omega
    · exact ⟨g, cap, h, h1, h2⟩
  subst hv2
  have hgb : w.heap.size ≤ g := hnb2 g rfl
  have HO : Hid (∀ w' : World, w2.heap[g]? = w'.heap[g]? → w'.ownsRow 0 80 2 (.slice (some ⟨g, 0, none⟩) (KL + 1) cap) (KL + 1) (kpf (ks ++ [kpB]))) := fun w' hw => row_via ho2 (fun b hb => by cases hb; exact hw.symm)
  have HX : Hid (w.grownBy w2 none ∧ w.heap.size ≤ g ∧ g < w2.heap.size) := ⟨hg2, hgb, (ho2.lt g rfl).2⟩
  have hKps : KpsIn w2 (.slice (some ⟨g, 0, none⟩) KL cap) ks := by
    have hb : ks.length ≤ maxLen ∧ ∀ j, j < ks.length → (ks.getD j kpZ).name.length ≤ maxLen ∧ (Lit.int .i64 (ks.getD j kpZ).n).wf = true := by
      obtain ⟨_, _, _, h2, h3⟩ := HV.out.1
      exact ⟨h2, fun j hj => by obtain ⟨x, y, _⟩ := h3 j hj; exact ⟨x, y⟩⟩
    have := own_kps ho2 hb.1 hb.2
    rw [HKL.out] at this
    exact this
  have HC : Hid (Calls Try.prog 20 #[.pointer (some ⟨gd, 0, none⟩), .slice (some ⟨g, 0, none⟩) KL cap] w2 fun e w' => ∃ E : Int, e = .returned (.int .i64 E) ∧ Ch w2 w' S ∧ ((KpOk ks ∧ E = 0 ∧ DiskOK w' (Gr S w2 w') gd (crashM M ks (fun _ => false)) N) ∨ (¬ KpOk ks ∧ E = 1 ∧ DiskOK w' (Gr S w2 w') gd M N))) := by
    refine (crash_ok w2 S gd N M _ ks (HV.out.2.2.2.2.2.keep hg2) hKps).mono ?_
    rintro e w' ⟨h1, ⟨h2, rfl, h3⟩ | ⟨h2, rfl, h3⟩⟩
    · exact ⟨0, rfl, h1, .inl ⟨h2, rfl, h3⟩⟩
    · exact ⟨1, rfl, h1, .inr ⟨h2, rfl, h3⟩⟩
  have hcap2 : (KL : Int) + 1 ≤ (cap : Int) := by omega
  have hcm2 : (cap : Int) ≤ 9223372036854775807 := by unfold maxLen at hcm; omega
  clear ho2 hf2 hg2 hnb2 hgb hKps hcap hcm H1
  go_wp2_with fail
  refine HC.out.mono ?_
  rintro e w3 ⟨E, rfl, hc3, hd3⟩
  have hw3 : w2.heap[g]? = w3.heap[g]? := (hc3.block HX.out.2.2 (fun hs => by have := HV.out.2.2.2.2.1 g hs; have := HX.out.2.1; omega)).symm
  have ho3 := HO.out w3 hw3
  have hbeh : w3.cell? ⟨g, KL * 2, none⟩ = some (.string { data := #[98, 101, 104, 105, 110, 100] }) := by
    have hc := World.ownsRow.cells ho3 rfl (KL * 2) (.string { data := #[98, 101, 104, 105, 110, 100] }) (by
      rw [kpf_append, List.getElem?_append_right (by rw [kpf_len, HKL.out]; omega), kpf_len, HKL.out]
      simp [kpf, kpc, kpB])
    rw [Go.WideShapes.add_plain] at hc
    simpa using hc
  have HD3 := hid_mk' (And.intro hc3 hd3)
  have HO3 := hid_mk' ho3
  clear hc3 hd3 hw3 ho3
  have HL3 : Hid (KpsIn w3 (.slice va KL vc) ks) := by
    have h0 := HV.out.1.keep HX.out.1
    exact h0.via0 (fun hne b hb hlt => HD3.out.1.block hlt (HV.out.2.2.2.1 hne b hb))
  have HO4 : Hid (KpsIn w3 (.slice (some ⟨g, 0, none⟩) KL cap) ks) := by
    have hb : ks.length ≤ maxLen ∧ ∀ j, j < ks.length → (ks.getD j kpZ).name.length ≤ maxLen ∧ (Lit.int .i64 (ks.getD j kpZ).n).wf = true := by
      obtain ⟨_, _, _, h2, h3⟩ := HV.out.1
      exact ⟨h2, fun j hj => by obtain ⟨x, y, _⟩ := h3 j hj; exact ⟨x, y⟩⟩
    have := own_kps HO3.out hb.1 hb.2
    rw [HKL.out] at this
    exact this
  have HEnd : Hid (∀ W : World, w3.grownBy W none → Ch w W S ∧ ((KpOk ks ∧ E = 0 ∧ DiskOK W (Gr S w W) gd (crashM M ks (fun _ => false)) N) ∨ (¬ KpOk ks ∧ E = 1 ∧ DiskOK W (Gr S w W) gd M N))) := by
    intro W hg
    have hs := HX.out.1.size
    have hsW := hg.size
    have hch : Ch w W S := ((Ch.of_gb (S := S) HX.out.1 (fun k hk => by cases hk)).trans HD3.out.1 (fun _ _ h => h)).trans (Ch.of_gb (S := fun _ => False) hg (fun k hk => by cases hk)) (fun _ _ h => h.elim)
    have hmono : ∀ {P : Fls}, DiskOK w3 (Gr S w2 w3) gd P N → DiskOK W (Gr S w W) gd P N := fun {P} h => (h.keep hg).mono (fun k hk h => by
      rcases h with h | h
      · exact .inl h
      · exact .inr ⟨by omega, hk⟩)
    refine ⟨hch, ?_⟩
    rcases HD3.out.2 with ⟨h1, h2, h3⟩ | ⟨h1, h2, h3⟩
    · exact .inl ⟨h1, h2, hmono h3⟩
    · exact .inr ⟨h1, h2, hmono h3⟩
  clear HC HO HO3 HD3
  have hKL2 : (KL : Int) ≤ 5864062014634 := by omega
  go_wp2
  go_loopw [8, 9] (fun b i wr => b = .bool true ∧ ∃ k : Nat, k ≤ KL ∧ i = .int .i64 (k : Int) ∧ Hid (w3.grownBy wr none)) (fun _ i _ => KL - (intOf i).toNat)
  case atStart => exact ⟨by first | rfl | simp, 0, by omega, rfl, gb_refl _ _⟩
  case round =>
    obtain ⟨rfl, k, hk, rfl, HK⟩ := hrel
    by_cases hkl : k < KL
    · have hkl2 : (k : Int) < (KL : Int) := by omega
      obtain ⟨a0, c0, hv0, -, h3⟩ := HL3.out.keep HK.out
      simp only [Value.slice.injEq] at hv0
      obtain ⟨rfl, -, -⟩ := hv0
      obtain ⟨a1, c1, hv1, -, h4⟩ := HO4.out.keep HK.out
      simp only [Value.slice.injEq] at hv1
      obtain ⟨rfl, -, -⟩ := hv1
      obtain ⟨-, -, b, o, rfl, d0, d1⟩ := h3 k (by rw [HKL.out]; exact hkl)
      obtain ⟨-, -, b', o', hbo, e0, e1⟩ := h4 k (by rw [HKL.out]; exact hkl)
      cases hbo
      simp only [Nat.zero_add] at e0 e1
      clear h3 h4
      generalize ByteArray.mk ⟨(ks.getD k kpZ).name⟩ = s at *
      generalize (ks.getD k kpZ).n = nk at *
      have hq : (s.toList == s.toList) = true := by simp
      go_wp2_with fail
      go_region
      all_goals (try go_wp2)
      go_roundw
      case rel => exact ⟨rfl, k + 1, by omega, by go_num, gb_none HK.out (gb_drew _ none)⟩
      case measure => simp [intOf]; omega
    · have hkl2 : ¬ (k : Int) < (KL : Int) := by omega
      have HE := hid_mk' (HEnd.out wr HK.out)
      clear HEnd HL3 HO4 HX
      go_wp2
      go_ret2
      rcases HE.out with ⟨h1, ⟨h2, rfl, h3⟩ | ⟨h2, rfl, h3⟩⟩
      · exact ⟨h1, .inl ⟨h2, rfl, h3⟩⟩
      · exact ⟨h1, .inr ⟨h2, rfl, h3⟩⟩
end Go.Proofs.Ytgafmplmngbbfaa
