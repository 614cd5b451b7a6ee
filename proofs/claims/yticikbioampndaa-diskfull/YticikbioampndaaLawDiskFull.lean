/-
  DiskFull is true for every input: a disk takes as many files as there may be, and no more.
-/
import Derived.Test.YticikbioampndaaLiftD
import Derived.Test.YticikbioampndaaDuoS
namespace Go.Proofs.Yticikbioampndaa
open Go.ChangeShapes Go.WideShapes Go.ChangeAt Go.RowKit Go.Maps

/-- a constant's bytes get their mark, another block lying behind them -/
theorem conv_two (w : World) (C : Array Value) (o : Obj) (n c : Nat) : (convert 31 31 (.slice (some ⟨w.heap.size, 0, none⟩) n c)).run Try.prog (((w.alloc (.cells C 5)).alloc o).drew) = .ok (.slice (some ⟨w.heap.size, 0, none⟩) n c) (((w.alloc (.cells C 5 (C.size, C.size + 1))).alloc o).drew) := by
  have hb : (((w.alloc (.cells C 5)).alloc o).drew).heap[w.heap.size]? = some (.cells C 5) := by
    show ((w.heap.push (.cells C 5)).push o)[w.heap.size]? = _
    rw [Array.getElem?_push]
    simp
  have hsh : (((w.alloc (.cells C 5)).alloc o).drew).shape? w.heap.size = some (5, C.size) := by
    unfold World.shape?
    rw [hb]
  have hfr : ∀ (k : Nat), (((w.alloc (.cells C 5)).alloc o).drew).freeze ⟨w.heap.size, k, none⟩ 1 = ((w.alloc (.cells C 5 (k, k + 1))).alloc o).drew := fun k => by
    have hm : ∀ (a : Array Obj) (x y : Obj) (f : Obj → Obj), ((a.push x).push y).modify a.size f = (a.push (f x)).push y := by
      intro a x y f
      apply Array.ext
      · simp
      · intro i h1 h2
        simp only [Array.getElem_modify, Array.getElem_push, Array.size_push]
        by_cases h : a.size = i
        · subst h
          simp
        · by_cases hi : i < a.size
          · simp [h, hi, show i < a.size + 1 by omega]
          · have : i = a.size + 1 := by simp at h1; omega
            subst this
            simp
    unfold World.freeze
    rw [if_neg (by decide)]
    show ({ ((w.alloc (.cells C 5)).alloc o).drew with heap := ((w.heap.push (.cells C 5)).push o).modify w.heap.size _ } : World) = _
    rw [hm]
    rfl
  simp [convert, run_underlying Try.underlying31, run_underlying Try.underlying5, markStringish, hsh]
  exact hfr _
theorem conv_one (w : World) (C : Array Value) (n c : Nat) : (convert 31 31 (.slice (some ⟨w.heap.size, 0, none⟩) n c)).run Try.prog ((w.alloc (.cells C 5)).drew) = .ok (.slice (some ⟨w.heap.size, 0, none⟩) n c) ((w.alloc (.cells C 5 (C.size, C.size + 1))).drew) := conv_const w.drew C n c
theorem Rd_two (w : World) (o : Obj) {fr : Nat × Nat} : Rd (((w.alloc (.cells #[.int .u8 120] 5 fr)).alloc o).drew) (.slice (some ⟨w.heap.size, 0, none⟩) 1 1) [120] :=
  ((Rd_lit w [120] 1 rfl (by simp) #[.int .u8 120] rfl (fr := fr)).keep (World.grownBy_alloc _ _ none)).keep (gb_drew _ none)
theorem Rd_last (w : World) (o : Obj) {fr : Nat × Nat} : Rd (((w.alloc o).alloc (.cells #[.int .u8 120] 5 fr)).drew) (.slice (some ⟨w.heap.size + 1, 0, none⟩) 1 1) [120] := by
  have := (Rd_lit (w.alloc o) [120] 1 rfl (by simp) #[.int .u8 120] rfl (fr := fr)).keep (gb_drew _ none)
  rw [World.size_alloc] at this
  exact this
theorem own_at {b n c : Nat} : ∀ k, (Value.slice (some ⟨b, 0, none⟩) n c).ownBlock = some k → b ≤ k := fun k h => by
  simp only [Value.ownBlock, Option.some.injEq] at h
  omega
theorem own_at1 {b n c : Nat} : ∀ k, (Value.slice (some ⟨b + 1, 0, none⟩) n c).ownBlock = some k → b ≤ k := fun k h => by
  simp only [Value.ownBlock, Option.some.injEq] at h
  omega
theorem Rd_one (w : World) {fr : Nat × Nat} : Rd ((w.alloc (.cells #[.int .u8 120] 5 fr)).drew) (.slice (some ⟨w.heap.size, 0, none⟩) 1 1) [120] :=
  (Rd_lit w [120] 1 rfl (by simp) #[.int .u8 120] rfl (fr := fr)).keep (gb_drew _ none)
theorem Rd_zero (w : World) {fr : Nat × Nat} : Rd (w.alloc (.cells #[.int .u8 120] 5 fr)) (.slice (some ⟨w.heap.size, 0, none⟩) 1 1) [120] :=
  Rd_lit w [120] 1 rfl (by simp) #[.int .u8 120] rfl (fr := fr)

theorem conv_at (w : World) (b : Nat) (C : Array Value) (n c : Nat) (h : w.heap[b]? = some (.cells C 5)) : (convert 31 31 (.slice (some ⟨b, 0, none⟩) n c)).run Try.prog w = .ok (.slice (some ⟨b, 0, none⟩) n c) (w.freeze ⟨b, C.size, none⟩ 1) := by
  have hsh : w.shape? b = some (5, C.size) := by
    unfold World.shape?
    rw [h]
  simp [convert, run_underlying Try.underlying31, run_underlying Try.underlying5, markStringish, hsh]
theorem freeze_ch (w : World) (b k : Nat) : Ch w (w.freeze ⟨b, k, none⟩ 1) (fun j => j = b) := by
  unfold World.freeze
  rw [if_neg (by decide)]
  refine ⟨rfl, rfl, rfl, by simp, fun j hj hne => ?_⟩
  show (w.heap.modify b _)[j]? = _
  rw [Array.getElem?_modify, if_neg (fun e => hne e.symm)]
theorem freeze_rd (w : World) (b : Nat) (h : w.heap[b]? = some (.cells #[.int .u8 120] 5)) : Rd (w.freeze ⟨b, 1, none⟩ 1) (.slice (some ⟨b, 0, none⟩) 1 1) [120] := by
  have hb : (w.freeze ⟨b, 1, none⟩ 1).heap[b]? = some (.cells #[.int .u8 120] 5 (1, 2)) := by
    unfold World.freeze
    rw [if_neg (by decide)]
    show (w.heap.modify b _)[b]? = _
    rw [Array.getElem?_modify, if_pos rfl, h]
    rfl
  refine ⟨_, _, rfl, by simp, by simp [maxLen], fun j hj => ⟨b, 0, rfl, ?_⟩, fun h => by cases h⟩
  have hj0 : j = 0 := by simpa using hj
  subst hj0
  simp only [World.cell?, hb]
  rfl
theorem DuoW.freeze {w wr : World} {Sd Sr : Nat → Prop} {gd gr : Nat} {Md Mr : Fls} {Nd Nr : Nat} (h : DuoW w wr Sd Sr gd gr Md Nd Mr Nr) (b k : Nat) (hb : w.heap.size ≤ b) (h1 : ¬ Sd b) (h2 : ¬ Sr b) : DuoW w (wr.freeze ⟨b, k, none⟩ 1) Sd Sr gd gr Md Nd Mr Nr := by
  have hc := freeze_ch wr b k
  have hs := hc.size
  refine ⟨h.d.frame hc (fun j _ hj e => h1 (by rw [← e]; exact hj)), h.r.frame hc (fun j _ hj e => h2 (by rw [← e]; exact hj)), ?_, fun j hj => ?_, fun j hj => ?_⟩
  · exact ((Ch.of_gb (S := fun j => j = b) h.g (fun k hk => by cases hk)).trans hc (fun _ _ h => h)).gb (fun j hj e => by omega)
  · obtain ⟨a, c, d⟩ := h.bd j hj
    exact ⟨a, by omega, d⟩
  · obtain ⟨a, c⟩ := h.br j hj
    exact ⟨a, by omega⟩
theorem blk_last (w : World) (o : Obj) (C : Array Value) : (((w.alloc o).alloc (.cells C 5)).drew).heap[w.heap.size + 1]? = some (.cells C 5) := by
  have := alloc_at (w.alloc o) (.cells C 5)
  rw [World.size_alloc] at this
  exact this
theorem blk_first (w : World) (o : Obj) (C : Array Value) : (((w.alloc (.cells C 5)).alloc o).drew).heap[w.heap.size]? = some (.cells C 5) := by
  show ((w.heap.push (.cells C 5)).push o)[w.heap.size]? = _
  rw [Array.getElem?_push]
  simp
theorem hid_mk {p : Prop} (h : p) : Hid p := h
theorem addc (t : Bs) : (ByteArray.mk #[102] : ByteArray) ++ ByteArray.mk ⟨t⟩ = ByteArray.mk ⟨102 :: t⟩ := by
  apply ByteArray.ext
  apply Array.toList_inj.1
  simp

set_option maxRecDepth 16000 in
set_option maxHeartbeats 64000000 in
theorem full_walk (z : Int) (nm : Bs) (w : World) (hn : nm.length ≤ 9223372036854775807) :
    Calls Try.prog 7 #[.int .i64 z, .string (ByteArray.mk ⟨nm⟩)] w fun e w' => e = .returned (.bool true) ∧ Below w.heap.size w w' := by
  have HN : Hid (nm.length ≤ 9223372036854775807) := hn
  generalize hs0 : ByteArray.mk ⟨nm⟩ = s0
  have HS0 : Hid (ByteArray.mk ⟨nm⟩ = s0) := hs0
  clear hn hs0
  have hcv := conv_const
  obtain ⟨T, hT⟩ : ∃ T : Nat, (z % ((10 : Nat) : Int)).toNat = T := ⟨_, rfl⟩
  have hT10 : T < 10 := by rw [← hT]; have := Int.emod_nonneg z (b := ((10 : Nat) : Int)) (by omega); have := Int.emod_lt_of_pos z (b := ((10 : Nat) : Int)) (by omega); omega
  have HCt : Hid (∀ w', Calls Try.prog 25 #[.int .i64 z, .int .i64 10] w' fun e w'' => e = .returned (.int .i64 (T : Int)) ∧ w'' = w') := fun w' => by rw [← hT]; exact count_any z 10 10 rfl w' (by omega) (by omega)
  clear hT
  go_enter Try.func7, Try.ntmps7
  go_wp2_with fail
  refine (new_ok _).mono ?_
  rintro e w1 ⟨gd, rfl, hd1, hg1⟩
  have H1 : Hid (Duo w (w1.alloc (.cells #[.slice none 0 0] 28)) gd w1.heap.size (fun _ => none) 0) := Duo.new hg1 hd1
  clear hd1 hg1
  go_wp2_with fail
  refine (HCt.out _).mono ?_
  rintro e w2 ⟨rfl, hw2⟩
  rw [hw2]
  clear hw2 w2
  generalize hgr : w1.heap.size = gr at *
  generalize hwb : w1.alloc (.cells #[.slice none 0 0] 28) = wb at *
  clear hgr hwb
  go_wp2
  go_loopw [7, 8] (fun i _ wr => ∃ k : Nat, k ≤ 250 + T ∧ i = .int .i64 (k : Int) ∧ Hid (∃ M N, Duo w wr gd gr M N)) (fun i _ _ => 250 + T - (intOf i).toNat)
  case atStart => exact ⟨0, by omega, rfl, _, _, H1.out⟩
  case round =>
    obtain ⟨k, hk, rfl, HK⟩ := hrel
    by_cases hkl : k < 250 + T
    · have hkl2 : (k : Int) < 250 + (T : Int) := by omega
      have hk300 : (k : Int) < 300 := by omega
      obtain ⟨M, N, Sd, Sr, hD⟩ := HK.out
      obtain ⟨t, ht, hc2⟩ : ∃ t : Bs, t.length = 2 ∧ (convert 31 9 (.slice (some ⟨wr.heap.size, 0, none⟩) 2 2)).run Try.prog (wr.alloc (.cells #[.int .u8 (97 + (k : Int) / 16), .int .u8 (97 + (k : Int) % 16)] 5)) = .ok (.string (ByteArray.mk ⟨t⟩)) (wr.alloc (.cells #[.int .u8 (97 + (k : Int) / 16), .int .u8 (97 + (k : Int) % 16)] 5)) := by
        have h := conv2 wr (97 + k / 16) (97 + k % 16) (by omega) (by omega)
        have x1 : ((97 + k / 16 : Nat) : Int) = 97 + (k : Int) / 16 := by omega
        have x2 : ((97 + k % 16 : Nat) : Int) = 97 + (k : Int) % 16 := by omega
        rw [x1, x2] at h
        exact ⟨_, rfl, h⟩
      have hcat := addc t
      have hstz : (ByteArray.mk ⟨t⟩).size = 2 := ht
      generalize hst : ByteArray.mk ⟨t⟩ = st at *
      generalize hs1 : ByteArray.mk ⟨102 :: t⟩ = s1 at *
      have HS1 : Hid (ByteArray.mk ⟨102 :: t⟩ = s1 ∧ t.length = 2) := ⟨hs1, ht⟩
      have HD1 : Hid (DuoW w (wr.alloc (.cells #[.int .u8 (97 + (k : Int) / 16), .int .u8 (97 + (k : Int) % 16)] 5)) Sd Sr gd gr M N M N) := hD.keep (World.grownBy_alloc _ _ none)
      clear hst hs1 ht hD
      go_wp2_with fail
      have hA1 := append_ok _ Sd gd N M (102 :: t) [] (.slice none 0 0) (by have := HS1.out.2; simp; omega) HD1.out.d (Rd.nil _)
      rw [HS1.out.1] at hA1
      refine hA1.mono ?_
      rintro e w3 ⟨rfl, hc3, hd3⟩
      have HD3 : Hid (∃ Sd', DuoW w w3 Sd' Sr gd gr (if appendE M N (102 :: t) [] = 0 then upd M (102 :: t) (some (appendF M (102 :: t) [])) else M) (if appendE M N (102 :: t) [] = 0 ∧ (M (102 :: t)).isSome = false then N + 1 else N) M N) := ⟨_, HD1.out.setD hc3 hd3⟩
      clear hA1 hc3 hd3 HD1
      obtain ⟨Sd', hD3⟩ := HD3.out
      have HD4 : Hid (DuoW w w3 Sd' Sr gd gr (if appendE M N (102 :: t) [] = 0 then upd M (102 :: t) (some (appendF M (102 :: t) [])) else M) (if appendE M N (102 :: t) [] = 0 ∧ (M (102 :: t)).isSome = false then N + 1 else N) M N) := hD3
      have hA2 := refAppend_ok w3 Sr gr N M (102 :: t) [] (.slice none 0 0) (by have := HS1.out.2; simp; omega) hD3.r (Rd.nil _)
      rw [HS1.out.1] at hA2
      have HA2 : Hid (Calls Try.prog 26 #[.pointer (some ⟨gr, 0, none⟩), .string s1, .slice none 0 0] w3 fun e w' => e = .returned (.int .i64 (appendE M N (102 :: t) [] : Int)) ∧ Ch w3 w' Sr ∧ RefOK w' (Gr Sr w3 w') gr (if appendE M N (102 :: t) [] = 0 then upd M (102 :: t) (some (appendF M (102 :: t) [])) else M) (if appendE M N (102 :: t) [] = 0 ∧ (M (102 :: t)).isSome = false then N + 1 else N)) := hA2
      clear hA2 hD3 HD3
      generalize hEE : appendE M N (102 :: t) [] = E at *
      clear hEE
      go_wp2_with fail
      refine HA2.out.mono ?_
      rintro e w4 ⟨rfl, hc4, hr4⟩
      have HD5 : Hid (∃ M N, Duo w w4 gd gr M N) := ⟨_, _, _, _, HD4.out.setR hc4 hr4⟩
      clear hc4 hr4 HD4 HA2
      have hne : ((E : Int) != (E : Int)) = false := by simp
      go_wp2
      go_roundw
      case rel => exact ⟨k + 1, by omega, by go_num, HD5⟩
      case measure => simp [intOf]; omega
    · obtain ⟨M, N, Sd, Sr, hD⟩ := HK.out
      have hkl2 : ¬ (k : Int) < 250 + (T : Int) := by omega
      have HD : Hid (DuoW w wr Sd Sr gd gr M N M N) := hD
      clear hD HK
      obtain ⟨M', hM'⟩ : ∃ M', M' = (if appendE M N nm [120] = 0 then upd M nm (some (appendF M nm [120])) else M) := ⟨_, rfl⟩
      obtain ⟨N', hN'⟩ : ∃ N', N' = (if appendE M N nm [120] = 0 ∧ (M nm).isSome = false then N + 1 else N) := ⟨_, rfl⟩
      have HAd : Hid (∀ W x, wr.grownBy W none → Rd W x [120] → Calls Try.prog 17 #[.pointer (some ⟨gd, 0, none⟩), .string s0, x] W fun e w' => e = .returned (.int .i64 (appendE M N nm [120] : Int)) ∧ (∃ Sd', DuoW w w' Sd' Sr gd gr M' N' M N ∧ ∀ k, wr.heap.size ≤ k → k < W.heap.size → ¬ Sd' k ∧ ¬ Sr k) ∧ (∀ y l, Rd W y l → (∀ k, y.ownBlock = some k → wr.heap.size ≤ k) → Rd w' y l) ∧ ∀ k, wr.heap.size ≤ k → k < W.heap.size → w'.heap[k]? = W.heap[k]?) := fun W x hg hx => by
        rw [← HS0.out]
        refine (append_ok W Sd gd N M nm [120] x HN.out (HD.out.d.keep hg) hx).mono ?_
        rintro e w' ⟨h1, h2, h3⟩
        rw [← hM', ← hN'] at h3
        refine ⟨h1, ⟨_, (HD.out.keep hg).setD h2 h3, fun k hk1 hk2 => ⟨fun hs => ?_, fun hs => ?_⟩⟩, fun y l hy hk => hy.ch h2 (fun k hk' _ hs => ?_), fun k hk1 hk2 => h2.block hk2 (fun hs => ?_)⟩
        · rcases hs with hs | hs
          · have := (HD.out.bd k hs).2.1
            omega
          · omega
        · have := (HD.out.br k hs).2
          omega
        · have := (HD.out.bd k hs).2.1
          have := hk k hk'
          omega
        · have := (HD.out.bd k hs).2.1
          omega
      have HAr : Hid (∀ W Sd' x, DuoW w W Sd' Sr gd gr M' N' M N → Rd W x [120] → Calls Try.prog 26 #[.pointer (some ⟨gr, 0, none⟩), .string s0, x] W fun e w' => e = .returned (.int .i64 (appendE M N nm [120] : Int)) ∧ (∃ Sr', DuoW w w' Sd' Sr' gd gr M' N' M' N')) := fun W Sd' x hd hx => by
        rw [← HS0.out]
        refine (refAppend_ok W Sr gr N M nm [120] x HN.out hd.r hx).mono ?_
        rintro e w' ⟨h1, h2, h3⟩
        rw [← hM', ← hN'] at h3
        exact ⟨h1, _, hd.setR h2 h3⟩
      have HLi : Hid (∀ w6 W Sd' Sr', DuoW w w6 Sd' Sr' gd gr M' N' M' N' → w6.grownBy W none → Calls Try.prog 14 #[.pointer (some ⟨gd, 0, none⟩)] W fun e w' => ∃ a c, e = .returned (.slice a N' c) ∧ DuoW w w' Sd' Sr' gd gr M' N' M' N') := fun w6 W Sd' Sr' hd hg => by
        refine (list_ok W Sd' gd N' M' (hd.d.keep hg)).mono ?_
        rintro e w' ⟨v, ss, h1, h2, h3, h4, h5, h6, h7⟩
        rcases h2.2 with ⟨hv, hn⟩ | ⟨gs, cs, _, hv, _⟩
        · exact ⟨none, 0, by rw [h1, hv, ← h6, hn], (hd.keep hg).keep h7⟩
        · exact ⟨_, _, by rw [h1, hv, h6], (hd.keep hg).keep h7⟩
      have HCr : Hid (∀ W Sd' Sr', DuoW w W Sd' Sr' gd gr M' N' M' N' → ∃ a c, W.cell? ⟨gr, 0, none⟩ = some (.slice a N' c)) := fun W Sd' Sr' hd => by
        obtain ⟨v, rs, hW, _, hlen⟩ := hd.r
        obtain ⟨a, c, rfl, -, -⟩ := hW.shape
        exact ⟨a, c, by rw [← hlen]; simp [World.cell?, hW.box]⟩
      have HW0 : Hid (w.heap.size ≤ wr.heap.size) := HD.out.g.size
      clear hM' hN' HN HS0 HD HCt
      have hcvD := conv_one
      have hcvE := fun w o => conv_one (World.alloc w o)
      simp only [World.size_alloc] at hcvE
      have hcv2 := conv_two
      generalize appendE M N nm [120] = E at *
      go_wp2_with fail
      go_region_with (first
        | (go_at_call 17; refine (HAd.out _ _ (by first | exact gb_none (World.grownBy_alloc _ _ none) (gb_drew _ none) | exact gb_none (gb_none (World.grownBy_alloc _ _ none) (World.grownBy_alloc _ _ none)) (gb_drew _ none)) (by first | exact Rd_one _ | exact Rd_two _ _ | exact Rd_last _ _)).mono ?_; rintro e w5 ⟨rfl, ⟨Sd5, hD5, hn5⟩, hk5, hb5⟩; have H5 : Hid (DuoW w w5 Sd5 Sr gd gr M' N' M N) := hD5; have K5 := hid_mk hk5; (first | (have hq5 : w5.heap[wr.heap.size + 1]? = some (.cells #[.int .u8 120] 5) := (hb5 (wr.heap.size + 1) (by omega) (by simp)).trans (blk_last _ _ _); have hcv5 := conv_at w5 _ _ 1 1 hq5; have R5 := hid_mk (freeze_rd w5 _ hq5); have F5 := hid_mk (hD5.freeze (wr.heap.size + 1) 1 (by have := HW0.out; omega) (hn5 _ (by omega) (by simp)).1 (hn5 _ (by omega) (by simp)).2); clear hq5) | (have hq5 : w5.heap[wr.heap.size]? = some (.cells #[.int .u8 120] 5) := (hb5 (wr.heap.size) (by omega) (by first | (simp; done) | (simp; omega))).trans (blk_first _ _ _); have hcv5 := conv_at w5 _ _ 1 1 hq5; have R5 := hid_mk (freeze_rd w5 _ hq5); have F5 := hid_mk (hD5.freeze (wr.heap.size) 1 (by have := HW0.out; omega) (hn5 _ (by omega) (by first | (simp; done) | (simp; omega))).1 (hn5 _ (by omega) (by first | (simp; done) | (simp; omega))).2); clear hq5) | skip); clear hD5 hk5 hn5 hb5)
        | (go_at_call 26; refine (HAr.out _ Sd5 _ (by first | exact H5.out | exact H5.out.keep (World.grownBy_alloc _ _ none) | exact F5.out) (by first | exact Rd_zero _ | exact K5.out _ _ (Rd_two _ _) own_at | exact K5.out _ _ (Rd_last _ _) own_at1 | exact R5.out)).mono ?_; rintro e w6 ⟨rfl, ⟨Sr6, hD6⟩⟩; have H6 : Hid (DuoW w w6 Sd5 Sr6 gd gr M' N' M' N') := hD6; obtain ⟨a6, c6, e6⟩ := HCr.out _ _ _ hD6; clear hD6)
        | (go_at_call 14; refine (HLi.out _ _ Sd5 Sr6 H6.out (by first | exact gb_refl _ _ | exact gb_drew _ _)).mono ?_; rintro e w7 ⟨a7, c7, rfl, hD7⟩; have H7 : Hid (w.grownBy w7 none) := hD7.g; obtain ⟨a8, c8, e8⟩ := HCr.out _ _ _ hD7; clear hD7 H6)
        | (go_at_call 18; refine (known_any _).mono ?_; rintro e w8 ⟨rfl, hg8⟩; have H8 : Hid (Below w.heap.size w w8) := gb_below (gb_none H7.out (by first | exact hg8 | exact gb_none (gb_drew _ none) hg8)); clear hg8 H7))
      all_goals (try go_wp2)
      all_goals go_ret
      all_goals exact ⟨rfl, H8.out⟩

set_option maxRecDepth 100000 in
theorem full_contract (H : Type) (enc : TypeId × Value → H) (W : World) (base : Nat) (args : Array Value) (ds gs : List (DataW H)) (before : List MemPlace)
    (hval : ∀ (j : Nat) t v, Try.f7.params[j]? = some t → args[j]? = some v → Value.okWide Try.prog W .any base t v)
    (hW : DataW.Whole enc Try.prog Try.f7.params.toList Rows.diskFullSpec.vars false W args.toList ds gs before) (hk : (DataW.weightsEach Try.prog (Try.f7.params.toList ++ (OpenSpec.ofChange Rows.diskFullSpec).bare.plain.varTypes Try.prog) (ds ++ gs)).all (· ≤ reachBytes) = true) :
    Calls Try.prog 7 args W fun e W' => ∃ v, e = .returned v ∧ Rows.diskFullSpec.post enc Try.prog Try.f7 false true false false W args v W' := by
  have hW' := hW
  obtain ⟨p, q, hA0, hV, rfl, hfz, hnd⟩ := hW
  have hA : DataW.TrodAll enc Try.prog W 0 (fun _ => true) true Try.f7.params.toList args.toList ds p := hA0
  rw [Try.params7] at hA hval hk
  obtain ⟨v0, vs0, d0, ds0, p0, q0, hargs, rfl, rfl, h0, r0⟩ := trodAll_cons hA
  obtain ⟨v1, vs1, d1, ds1, p1, q1, rfl, rfl, rfl, h1, r1⟩ := trodAll_cons r0
  obtain ⟨rfl, rfl, rfl⟩ := trodAll_nil r1
  obtain rfl : args = #[v0, v1] := by cases args; simp_all
  obtain ⟨rfl, rfl⟩ := trodVars_none hV
  obtain ⟨z0, rfl, rfl, rfl, wz0⟩ := open_int Try.underlying3 (hval 0 3 v0 rfl rfl) h0
  obtain ⟨t1, rfl, rfl, rfl, wz1⟩ := Go.ChangeMaps.open_string Try.underlying9 (hval 1 9 v1 rfl rfl) h1
  clear hA0
  refine (full_walk z0 t1.data.toList W (by have := wz1; unfold maxLen at this; exact this)).mono fun e W' ⟨he, bel⟩ => ?_
  subst he
  exact ⟨_, rfl, _, _, _, [], _, [], hW', trodAll_mk1 (shut_bool Try.underlying4 _), (trodAll_cons_mk (shut_int Try.underlying3 wz0) (trodAll_cons_mk (Go.ChangeMaps.shut_string Try.underlying9 wz1) trodAll_mk0)), rfl, bel.frame _, fun h => by cases h⟩

set_option maxRecDepth 100000 in
theorem full_reads (os : Os) {H : Type} (enc : TypeId × Value → H) : ∃ places, DataW.whole enc Try.prog ((laidWorld os).forCall (fun _ _ => 0) ⟨#[], #[.int .i64 0, .string .empty], []⟩).memory Try.f7.params.toList Rows.diskFullSpec.vars false #[Value.int .i64 0, Value.string ByteArray.empty].toList 8 = some ([.lit (.int .i64 0), .lit (.string [])], [], places) :=
  ⟨[], by kernel_rfl⟩

set_option maxRecDepth 100000 in
theorem full_lifted (os : Os) (started : os.Started) (H : Type) (enc : TypeId × Value → H) (F : Stop.Interp) :
    ReturnsInHanded {} Try.checked os 7 .any ((OpenSpec.ofChange Rows.diskFullSpec).preRow enc Try.prog Try.f7 Rows.diskFullRow.domain false Rows.diskFullRow.laid) (((OpenSpec.ofChange Rows.diskFullSpec).at F).post enc Try.prog Try.f7 false true false false) := by
  obtain ⟨places, hx⟩ := full_reads os enc
  refine returnsInHanded_of_row (C := Try.checked) (s := (OpenSpec.ofChange Rows.diskFullSpec)) own started (by kernel_rfl) Try.func7
    (witness_row_at (enc := enc) (C := Try.checked) false (laidWorld os) #[.int .i64 0, .string .empty] rfl (by kernel_rfl) (by kernel_rfl) (by kernel_rfl)
      (OpenSpec.preRow_of_cond 8 hx (by kernel_rfl) (fun k hk => by cases hk) (by kernel_rfl) (laidMet_of_run' 8 (by kernel_rfl) (by kernel_rfl)))) ?_
  intro W base args ds gs before hval hW _ _ hsz _ _ _
  exact full_contract H enc W base args ds gs before hval hW hsz

set_option maxRecDepth 100000 in
theorem full_said : Rows.DiskFullSaid :=
  OpenClaim.holds_of_cond 7 Try.f7 rfl rfl rfl rfl rfl rfl rfl ⟨rfl, rfl, rfl, rfl, rfl⟩ rfl rfl rfl rfl rfl (by kernel_rfl) Try.func7 (by kernel_rfl)
    (of_decide_eq_true (by kernel_rfl)) (by unfold Func.isWrapper; first | (rw [if_pos (by decide +kernel)]; kernel_rfl) | (rw [if_neg (by decide +kernel)]; exact ⟨rfl, rfl⟩))
    (fun os started H enc _ F => by rw [OpenClaim.pre_eq_preRow]; exact full_lifted os started H enc F)

/-- THE STATEMENT -/
theorem diskFull_holds : Rows.DiskFullSaid := full_said
end Go.Proofs.Yticikbioampndaa
