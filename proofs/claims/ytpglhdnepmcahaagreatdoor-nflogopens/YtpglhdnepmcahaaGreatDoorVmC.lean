/-
  U8Put, VRoom, in one text.
-/
import Derived.Test.YtpglhdnepmcahaaGreatDoorVmA
import Derived.Lib.AppendStr
/- U8Put -/
namespace Go.Proofs.YtpglhdnepmcahaaGreatDoor
open Go.RowKit Go.Lib

theorem own_str {w : World} {base : Nat} {v : Value} {l : List UInt8} {t : ByteArray} (h : w.ownsRow base 5 1 v (l.length + t.size) (l.map bv ++ strCells t)) : Own w base v (l ++ t.data.toList) := by
  have e : (l ++ t.data.toList).length = l.length + t.size := by rw [List.length_append, Array.length_toList]; rfl
  have e2 : (l ++ t.data.toList).map bv = l.map bv ++ strCells t := by
    rw [List.map_append]
    rfl
  unfold Own
  rw [e, e2]
  exact h
/-- APPEND of a text, for the walk. -/
theorem wp_appS {w : World} {ops : Array Oper} {rest : List Oper} {o : Oper} {a : Act} {Q : Exit → Act → World → Prop} (hgd : o.guard = none) (s x : Operand)
    (ho : o.op = .call { callee := .builtin .append, args := #[s, x], argTypes := #[42, 9] })
    (base : Nat) (v : Value) (l : List UInt8) (t : ByteArray) (hs : a.eval s = v) (hx : a.eval x = .string t) (hown : Own w base v l) (hsz : l.length + t.size ≤ 140737488355328) (hbase : base ≤ w.heap.size)
    (h : ∀ v' w', Own w' base v' (l ++ t.data.toList) → w.grownBy w' v.ownBlock → wpList Tryz.prog ops Q rest (a.put o.dst v') w') : wpList Tryz.prog ops Q (o :: rest) a w := by
  refine wpList_plain hgd fun K hK => ?_
  obtain ⟨i0, hi, hz0, hz1, hz2⟩ := info_parts infoB
  obtain ⟨v', w', hrun, h2, h3, -⟩ := run_append_own_string (P := Tryz.prog) w base 42 9 o.type 5 i0 Tryz.underlying42 Tryz.underlying9 hi hz0 hz1 hz2 v l.length (l.map bv) hown t (by unfold maxLen; omega) hsz hbase
  unfold Oper.wp execOp
  simp only [ho, resolve, invoke, builtin, Sem.run_bind, Sem.run_pure, Result.andThen_ok, List.map_toArray, List.map_cons, List.map_nil, hs, hx, hrun]
  exact hK _ _ (h v' w' (own_str h2) h3)

set_option maxHeartbeats 3200000 in
/-- PUTTEXT -/
theorem putText_any (v : Value) (l s : List UInt8) (w : World) (hv : Rd w v l) (hsz : l.length + s.length ≤ 100000000000000) :
    Calls Tryz.prog 63 #[v, .string (ByteArray.mk ⟨s⟩)] w fun e w' => ∃ v', e = .returned v' ∧ Own w' w.heap.size v' (l ++ uv s.length ++ s) ∧ w.grownBy w' none := by
  have HV : Hid (Rd w v l) := hv
  clear hv
  have hz : (ByteArray.mk ⟨s⟩).size = s.length := rfl
  obtain ⟨SL, hSL⟩ : ∃ SL, s.length = SL := ⟨_, rfl⟩
  have HSL : Hid (s.length = SL) := hSL
  have hI : (SL : Int) = I64 (BitVec.ofNat 64 SL) := by rw [I64_of (by omega)]
  have hN : (BitVec.ofNat 64 SL).toNat = SL := by simp; omega
  have H2 : Hid (∀ W u, Own W w.heap.size u l → w.grownBy W none → Calls Tryz.prog 94 #[u, .int .u64 (SL : Int)] W fun e w' => ∃ v', e = .returned v' ∧ Hid (Own w' w.heap.size v' (l ++ uv SL) ∧ w.grownBy w' none)) := fun W u hu hg => by
    have hlt : ∀ k, u.ownBlock = some k → w.heap.size ≤ k := fun k hk => (hu.lt k hk).1
    rw [hI]
    refine (addU_any w.heap.size u l (BitVec.ofNat 64 SL) W hu hg.size (by omega)).mono ?_
    rintro e w' ⟨v', he, ho, hf⟩
    rw [hN] at ho
    exact ⟨v', he, ho, gb_new hg hf.1 hlt⟩
  clear hI hN
  rw [hSL] at hz hsz ⊢
  clear hSL
  go_enter Tryz.func63, Tryz.ntmps63
  go_wp2_with fail
  refine (withRoom_any v l (10 + SL) _ (by simp) _ HV.out (by omega)).mono ?_
  rintro e w1 ⟨v1, rfl, ho1, hg1, hb1⟩
  have H1 : Hid (Own w1 w.heap.size v1 l ∧ w.grownBy w1 none) := ⟨ho1, hg1⟩
  clear ho1 hg1 hb1
  go_wp2_with fail
  refine (H2.out _ _ H1.out.1 H1.out.2).mono ?_
  rintro e w2 ⟨v2, rfl, R2⟩
  have hul := uv_len64 (BitVec.ofNat 64 SL)
  go_wp2_with (at_builtin; refine wp_appS rfl _ _ rfl w.heap.size _ (l ++ uv SL) _ rfl rfl R2.out.1 ?a1 R2.out.2.size ?_)
  case a1 =>
    rw [hz, List.length_append]
    have e : (BitVec.ofNat 64 SL).toNat = SL := by simp; omega
    rw [e] at hul
    omega
  intro v3 w3 ho3 hg3
  have H3 : Hid (Own w3 w.heap.size v3 (l ++ uv SL ++ s) ∧ w.grownBy w3 none) := ⟨by rw [List.append_assoc]; exact ho3, gb_new R2.out.2 hg3 (fun k hk => (R2.out.1.lt k hk).1)⟩
  clear ho3 hg3
  go_wp2
  go_ret
  exact ⟨_, rfl, H3.out⟩
end Go.Proofs.YtpglhdnepmcahaaGreatDoor

/- VRoom -/
namespace Go.Proofs.YtpglhdnepmcahaaGreatDoor
open Go.RowKit Go.Lib

/-- what an append within the room leaves -/
theorem room_own {w : World} {base g cap : Nat} {l : List UInt8} (ms : List UInt8) (hown : Own w base (.slice (some ⟨g, 0, none⟩) l.length cap) l) (hroom : l.length + ms.length ≤ cap) :
    ∃ cur, w.heap[g]? = some (.cells cur 5 (0, 0)) ∧ cur.size = cap ∧
      Own (w.setRow g (cur.toList.take l.length ++ ms.map bv ++ cur.toList.drop (l.length + ms.length)).toArray) base (.slice (some ⟨g, 0, none⟩) (l ++ ms).length cap) (l ++ ms) ∧
      w.grownBy (w.setRow g (cur.toList.take l.length ++ ms.map bv ++ cur.toList.drop (l.length + ms.length)).toArray) (some g) := by
  rcases hown.2 with ⟨h, -⟩ | ⟨g', cap', cur, h, hbg, hh, hnc, hcm, hcs, htake⟩
  · cases h
  · simp only [Value.slice.injEq, Option.some.injEq, Addr.mk.injEq] at h
    obtain ⟨⟨rfl, -⟩, -, rfl⟩ := h
    simp only [Nat.mul_one] at hcs htake
    refine ⟨cur, hh, hcs, ⟨by simp, .inr ⟨g, cap, _, rfl, hbg, setRow_heap w g cur _ 5 _ hh, by rw [List.length_append]; exact hroom, hcm, ?_, ?_⟩⟩, ⟨rfl, rfl, rfl, by simp, fun k _ hk => setRow_other w g k _ (fun e => hk (by rw [e]))⟩⟩
    · simp only [List.size_toArray, List.length_append, List.length_take, List.length_map, List.length_drop, Array.length_toList, hcs, Nat.mul_one]
      omega
    · have hlen : (cur.toList.take l.length).length = l.length := by have := congrArg List.length htake; rw [List.length_map] at this; exact this
      simp only [Nat.mul_one, List.map_append]
      rw [show (l ++ ms).length = (cur.toList.take l.length ++ ms.map bv).length by rw [List.length_append, List.length_append, hlen, List.length_map], List.take_left, htake]

/-- APPEND of bytes within the room, for the walk. -/
theorem wp_appR {w : World} {ops : Array Oper} {rest : List Oper} {o : Oper} {a : Act} {Q : Exit → Act → World → Prop} (hgd : o.guard = none) (s x : Operand)
    (ho : o.op = .call { callee := .builtin .append, args := #[s, x], argTypes := #[42, 42] })
    (base g cap : Nat) (xv : Value) (l m : List UInt8) (hs : a.eval s = .slice (some ⟨g, 0, none⟩) l.length cap) (hx : a.eval x = xv) (hown : Own w base (.slice (some ⟨g, 0, none⟩) l.length cap) l) (hr : Rd w xv m) (hm : m ≠ []) (hroom : l.length + m.length ≤ cap) (N : Nat) (hN : l.length + m.length = N)
    (h : ∀ w', Own w' base (.slice (some ⟨g, 0, none⟩) N cap) (l ++ m) → w.grownBy w' (some g) → wpList Tryz.prog ops Q rest (a.put o.dst (.slice (some ⟨g, 0, none⟩) N cap)) w') : wpList Tryz.prog ops Q (o :: rest) a w := by
  refine wpList_plain hgd fun K hK => ?_
  obtain ⟨i0, hi, hz0, hz1, hz2⟩ := info_parts infoB
  obtain ⟨cur, hh, hcs, h2, h3⟩ := room_own m hown hroom
  obtain ⟨ra, c, rfl, hmc, hcm, hra, hnil⟩ := hr
  cases ra with
  | none =>
    have := hnil rfl
    exact absurd (List.eq_nil_of_length_eq_zero (by omega)) hm
  | some ad =>
    have hlen : (m.map bv).length = m.length * i0.size := by rw [hz1]; simp
    have hrun := run_append_room (P := Tryz.prog) w 42 o.type 5 i0 Tryz.underlying42 hi g l.length cap cur hh ad m.length c (m.map bv) hlen hra.news (oneCell_bv m) hroom (by rw [hz1, List.length_map, hcs]; omega)
    rw [hz1, List.length_map, Nat.mul_one, hN] at hrun
    rw [List.length_append, hN] at h2
    rw [hN] at h3
    unfold Oper.wp execOp
    simp only [ho, resolve, invoke, builtin, Sem.run_bind, Sem.run_pure, Result.andThen_ok, List.map_toArray, List.map_cons, List.map_nil, hs, hx, hrun]
    exact hK _ _ (h _ h2 h3)

/-- APPEND of a text within the room, for the walk. -/
theorem wp_appSR {w : World} {ops : Array Oper} {rest : List Oper} {o : Oper} {a : Act} {Q : Exit → Act → World → Prop} (hgd : o.guard = none) (s x : Operand)
    (ho : o.op = .call { callee := .builtin .append, args := #[s, x], argTypes := #[42, 9] })
    (base g cap : Nat) (l m : List UInt8) (hs : a.eval s = .slice (some ⟨g, 0, none⟩) l.length cap) (hx : a.eval x = .string (ByteArray.mk ⟨m⟩)) (hown : Own w base (.slice (some ⟨g, 0, none⟩) l.length cap) l) (hroom : l.length + m.length ≤ cap) (N : Nat) (hN : l.length + m.length = N)
    (h : ∀ w', Own w' base (.slice (some ⟨g, 0, none⟩) N cap) (l ++ m) → w.grownBy w' (some g) → wpList Tryz.prog ops Q rest (a.put o.dst (.slice (some ⟨g, 0, none⟩) N cap)) w') : wpList Tryz.prog ops Q (o :: rest) a w := by
  refine wpList_plain hgd fun K hK => ?_
  obtain ⟨i0, hi, hz0, hz1, hz2⟩ := info_parts infoB
  obtain ⟨cur, hh, hcs, h2, h3⟩ := room_own m hown hroom
  have hsz : (ByteArray.mk ⟨m⟩).size = m.length := rfl
  have hst : strCells (ByteArray.mk ⟨m⟩) = m.map bv := rfl
  have hrun := run_append_room_string (P := Tryz.prog) w 42 9 o.type 5 i0 Tryz.underlying42 Tryz.underlying9 hi hz1 g l.length cap cur hh (ByteArray.mk ⟨m⟩) (by rw [hsz]; exact hroom) (by rw [hsz, hcs]; exact hroom)
  rw [hsz, hst, hN] at hrun
  rw [List.length_append, hN] at h2
  rw [hN] at h3
  unfold Oper.wp execOp
  simp only [ho, resolve, invoke, builtin, Sem.run_bind, Sem.run_pure, Result.andThen_ok, List.map_toArray, List.map_cons, List.map_nil, hs, hx, hrun]
  exact hK _ _ (h _ h2 h3)

set_option maxHeartbeats 1600000 in
theorem withRoom_room (v : Value) (l : List UInt8) (m : Nat) (M : Int) (hM : M = (m : Int)) (w : World) (hv : Rd w v l) (hsz : l.length + m ≤ 281474976710656) :
    Calls Tryz.prog 95 #[v, .int .i64 M] w fun e w' => e = .returned (.slice (some ⟨w.heap.size, 0, none⟩) l.length (l.length + m)) ∧ Own w' w.heap.size (.slice (some ⟨w.heap.size, 0, none⟩) l.length (l.length + m)) l ∧ w.grownBy w' none := by
  subst hM
  obtain ⟨a, c, hv', hn, hm, hb, hz⟩ := hv
  have hv2 : Hid (Rd w v l) := ⟨a, c, hv', hn, hm, hb, hz⟩
  subst hv'
  unfold maxLen at hm
  clear hb hz
  go_enter Tryz.func95, Tryz.ntmps95
  go_wp2_with (at_make; refine wp_make rfl _ _ rfl w.heap.size _ _ _ _ l.length (l.length + m) rfl rfl rfl ?c1 ?c2 ?c3 ?c4 ?_)
  case c1 => omega
  case c2 => omega
  case c3 => omega
  case c4 => omega
  intro w1 ho1 hg1 _
  have H1 : Hid (Own w1 w.heap.size (.slice (some ⟨w.heap.size, 0, none⟩) l.length (l.length + m)) (List.replicate l.length 0) ∧ w.grownBy w1 none) := ⟨ho1, hg1⟩
  clear ho1 hg1
  go_wp2_with (refine wp_copy rfl _ _ rfl w.heap.size _ _ (List.replicate l.length 0) l rfl rfl H1.out.1 (hv2.out.keep H1.out.2) (by simp) ?_)
  intro w2 ho2 hg2
  have H2 : Hid (Own w2 w.heap.size (.slice (some ⟨w.heap.size, 0, none⟩) l.length (l.length + m)) l ∧ w.grownBy w2 none) := ⟨ho2, gb_new H1.out.2 hg2 (fun k hk => by simp [Value.ownBlock] at hk; omega)⟩
  clear ho2 hg2 H1 hv2
  go_wp2
  go_ret
  exact ⟨rfl, H2.out.1, H2.out.2⟩

set_option maxHeartbeats 1600000 in
theorem addU_room (base g cap : Nat) (l : List UInt8) (x : BitVec 64) (w : World) (hv : Own w base (.slice (some ⟨g, 0, none⟩) l.length cap) l) (hroom : l.length + 10 ≤ cap) :
    Calls Tryz.prog 94 #[.slice (some ⟨g, 0, none⟩) l.length cap, .int .u64 (I64 x)] w fun e w' => e = .returned (.slice (some ⟨g, 0, none⟩) (l ++ uv x.toNat).length cap) ∧ Own w' base (.slice (some ⟨g, 0, none⟩) (l ++ uv x.toNat).length cap) (l ++ uv x.toNat) ∧ w.grownBy w' (some g) := by
  have hlen := uv_len64 x
  have HV : Hid (Own w base (.slice (some ⟨g, 0, none⟩) l.length cap) l) := hv
  clear hv
  obtain ⟨N, hN⟩ : ∃ N, (l ++ uv x.toNat).length = N := ⟨_, rfl⟩
  rw [hN]
  have HN : Hid ((l ++ uv x.toNat).length = N) := hN
  clear hN
  go_enter Tryz.func94, Tryz.ntmps94
  go_wp2
  go_loopw [0, 1] (fun s n wr => ∃ (d : List UInt8) (y : BitVec 64), s = .slice (some ⟨g, 0, none⟩) (l ++ d).length cap ∧ n = .int .u64 (I64 y) ∧ Hid (Own wr base (.slice (some ⟨g, 0, none⟩) (l ++ d).length cap) (l ++ d) ∧ uv x.toNat = d ++ uv y.toNat ∧ w.grownBy wr (some g))) (fun _ n _ => (intOf n).toNat)
  case atStart => exact ⟨[], x, by simp, rfl, by simpa using HV.out, rfl, gb_refl _ _⟩
  case round =>
    obtain ⟨d, y, rfl, rfl, hr⟩ := hrel
    have hdl : d.length + 1 ≤ 10 := by
      have h1 := congrArg List.length hr.out.2.1
      have := uv_pos y.toNat
      simp only [List.length_append] at h1
      omega
    have hrm : (l ++ d).length + 1 ≤ cap := by rw [List.length_append]; omega
    by_cases h : 128 ≤ I64 y
    · have e1 := or128 y
      have e2 := I64_shr7 y
      have hy : ¬ y.toNat < 128 := by simp only [I64] at h; omega
      have hst : Hid (uv x.toNat = (d ++ [lowB y.toNat]) ++ uv (y >>> 7).toNat) := by
        have := hr.out.2.1
        rw [uv_big hy] at this
        show uv x.toNat = _
        rw [this]
        simp [BitVec.toNat_ushiftRight, Nat.shiftRight_eq_div_pow]
      have hms : Hid ((I64 (y >>> 7)).toNat < (I64 y).toNat) := by
        show (I64 (y >>> 7)).toNat < (I64 y).toNat
        rw [← e2]; omega
      have HO : Hid (Own wr base (.slice (some ⟨g, 0, none⟩) (l ++ d).length cap) (l ++ d) ∧ w.grownBy wr (some g)) := ⟨hr.out.1, hr.out.2.2⟩
      clear hr hy
      generalize y >>> 7 = y1 at *
      generalize lowB y.toNat = b1 at *
      obtain ⟨L, hL⟩ : ∃ L, l ++ d = L := ⟨_, rfl⟩
      rw [hL] at HO hrm ⊢
      have HL : Hid (l ++ d = L) := hL
      clear hL
      obtain ⟨N1, hN1⟩ : ∃ N1, L.length + 1 = N1 := ⟨_, rfl⟩
      have HN1 : Hid (L.length + 1 = N1) := hN1
      clear hN1
      go_wp2_with (at_builtin; refine wp_appR rfl _ _ rfl base g cap _ L [b1] rfl rfl (HO.out.1.keep (alloc_gb _ _)) rd_one (by simp) hrm N1 HN1.out ?_)
      intro w' ho' hg'
      have HNN : Hid ((l ++ (d ++ [b1])).length = N1) := by show (l ++ (d ++ [b1])).length = N1; rw [← List.append_assoc, HL.out, List.length_append]; exact HN1.out
      have H' : Hid (Own w' base (.slice (some ⟨g, 0, none⟩) N1 cap) (l ++ (d ++ [b1])) ∧ w.grownBy w' (some g)) := by
        rw [← List.append_assoc, HL.out]
        exact ⟨ho', gb_trans (gb_none HO.out.2 (alloc_gb _ _)) hg' (fun _ h _ => h.symm)⟩
      clear ho' hg' HO
      go_wp2
      go_roundw
      case rel => exact ⟨d ++ [b1], y1, by rw [HNN.out], rfl, by rw [HNN.out]; exact H'.out.1, hst.out, H'.out.2⟩
      case measure => simp only [intOf]; exact hms.out
    · have hy : y.toNat < 128 := by simp only [I64] at h; omega
      have e1 := small256 y
      have hst : Hid (uv x.toNat = d ++ [UInt8.ofNat y.toNat]) := by
        have := hr.out.2.1
        rw [uv_small hy] at this
        exact this
      have HO : Hid (Own wr base (.slice (some ⟨g, 0, none⟩) (l ++ d).length cap) (l ++ d) ∧ w.grownBy wr (some g)) := ⟨hr.out.1, hr.out.2.2⟩
      clear hr hy
      generalize UInt8.ofNat y.toNat = b1 at *
      obtain ⟨L, hL⟩ : ∃ L, l ++ d = L := ⟨_, rfl⟩
      rw [hL] at HO hrm ⊢
      have HL : Hid (l ++ d = L) := hL
      clear hL
      have hel : L ++ [b1] = l ++ uv x.toNat := by rw [← HL.out, hst.out, List.append_assoc]
      have HN1 : Hid (L.length + 1 = N) := by show L.length + 1 = N; rw [← HN.out, ← hel, List.length_append]; rfl
      have HEL : Hid (L ++ [b1] = l ++ uv x.toNat) := hel
      clear hel
      go_wp2_with (at_builtin; refine wp_appR rfl _ _ rfl base g cap _ L [b1] rfl rfl (HO.out.1.keep (alloc_gb _ _)) rd_one (by simp) hrm N HN1.out ?_)
      intro w' ho' hg'
      rw [HEL.out] at ho'
      have H' : Hid (Own w' base (.slice (some ⟨g, 0, none⟩) N cap) (l ++ uv x.toNat) ∧ w.grownBy w' (some g)) := ⟨ho', gb_trans (gb_none HO.out.2 (alloc_gb _ _)) hg' (fun _ h _ => h.symm)⟩
      clear ho' hg' HO
      go_wp2
      go_ret
      exact ⟨rfl, H'.out⟩

set_option maxHeartbeats 3200000 in
/-- PUTTEXT, however great -/
theorem putText_full (v : Value) (l s : List UInt8) (w : World) (hv : Rd w v l) (hsz : l.length + s.length + 10 ≤ 281474976710656) :
    Calls Tryz.prog 63 #[v, .string (ByteArray.mk ⟨s⟩)] w fun e w' => ∃ v', e = .returned v' ∧ Own w' w.heap.size v' (l ++ uv s.length ++ s) ∧ w.grownBy w' none := by
  have HV : Hid (Rd w v l) := hv
  clear hv
  have hz : (ByteArray.mk ⟨s⟩).size = s.length := rfl
  obtain ⟨SL, hSL⟩ : ∃ SL, s.length = SL := ⟨_, rfl⟩
  have HSL : Hid (s.length = SL) := hSL
  have hI : (SL : Int) = I64 (BitVec.ofNat 64 SL) := by rw [I64_of (by omega)]
  have hN : (BitVec.ofNat 64 SL).toNat = SL := by rw [BitVec.toNat_ofNat]; omega
  have hul : (uv SL).length ≤ 10 := by
    have := uv_len64 (BitVec.ofNat 64 SL)
    rw [hN] at this
    exact this
  have H2 : Hid (∀ W, Own W w.heap.size (.slice (some ⟨w.heap.size, 0, none⟩) l.length (l.length + (10 + SL))) l → w.grownBy W none → Calls Tryz.prog 94 #[.slice (some ⟨w.heap.size, 0, none⟩) l.length (l.length + (10 + SL)), .int .u64 (SL : Int)] W fun e w' => e = .returned (.slice (some ⟨w.heap.size, 0, none⟩) (l ++ uv SL).length (l.length + (10 + SL))) ∧ Hid (Own w' w.heap.size (.slice (some ⟨w.heap.size, 0, none⟩) (l ++ uv SL).length (l.length + (10 + SL))) (l ++ uv SL) ∧ w.grownBy w' none)) := fun W hu hg => by
    rw [hI]
    refine (addU_room w.heap.size w.heap.size (l.length + (10 + SL)) l (BitVec.ofNat 64 SL) W hu (by omega)).mono ?_
    rintro e w' ⟨he, ho, hf⟩
    rw [hN] at ho he
    exact ⟨he, ho, gb_new hg hf (fun k hk => by cases hk; exact Nat.le_refl _)⟩
  clear hI hN
  rw [hSL] at hz hsz ⊢
  clear hSL
  obtain ⟨CAP, hCAP⟩ : ∃ CAP, l.length + (10 + SL) = CAP := ⟨_, rfl⟩
  have HW : Hid (∀ W M, M = ((10 + SL : Nat) : Int) → Rd W v l → Calls Tryz.prog 95 #[v, .int .i64 M] W fun e w' => e = .returned (.slice (some ⟨W.heap.size, 0, none⟩) l.length CAP) ∧ Own w' W.heap.size (.slice (some ⟨W.heap.size, 0, none⟩) l.length CAP) l ∧ W.grownBy w' none) := fun W M hM h => by
    rw [← hCAP]
    exact withRoom_room v l (10 + SL) M hM W h (by omega)
  rw [hCAP] at H2
  have HC : Hid (l.length + (10 + SL) = CAP) := hCAP
  clear hCAP
  obtain ⟨M, hM⟩ : ∃ M, l ++ uv SL = M := ⟨_, rfl⟩
  have HM : Hid (l ++ uv SL = M ∧ M.length = l.length + (uv SL).length) := ⟨hM, by rw [← hM, List.length_append]⟩
  rw [hM] at H2 ⊢
  clear hM
  obtain ⟨N3, hN3⟩ : ∃ N3, M.length + s.length = N3 := ⟨_, rfl⟩
  have HN3 : Hid (M.length + s.length = N3) := hN3
  clear hN3
  go_enter Tryz.func63, Tryz.ntmps63
  go_wp2_with fail
  refine (HW.out _ _ (by simp) HV.out).mono ?_
  rintro e w1 ⟨rfl, ho1, hg1⟩
  have H1 : Hid (Own w1 w.heap.size (.slice (some ⟨w.heap.size, 0, none⟩) l.length CAP) l ∧ w.grownBy w1 none) := ⟨ho1, hg1⟩
  clear ho1 hg1
  go_wp2_with fail
  refine (H2.out _ H1.out.1 H1.out.2).mono ?_
  rintro e w2 ⟨rfl, R2⟩
  go_wp2_with (at_builtin; refine wp_appSR rfl _ _ rfl w.heap.size w.heap.size CAP M s rfl rfl R2.out.1 ?a1 N3 HN3.out ?_)
  case a1 =>
    rw [HM.out.2, HSL.out, ← HC.out]
    omega
  intro w3 ho3 hg3
  have H3 : Hid (Own w3 w.heap.size (.slice (some ⟨w.heap.size, 0, none⟩) N3 CAP) (M ++ s) ∧ w.grownBy w3 none) := ⟨ho3, gb_new R2.out.2 hg3 (fun k hk => by cases hk; exact Nat.le_refl _)⟩
  clear ho3 hg3
  go_wp2
  go_ret
  exact ⟨_, rfl, H3.out⟩
end Go.Proofs.YtpglhdnepmcahaaGreatDoor
