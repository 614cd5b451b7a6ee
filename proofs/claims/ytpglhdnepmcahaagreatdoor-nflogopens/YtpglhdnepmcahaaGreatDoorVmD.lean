/-
  U8Text, LbRf, LbBp, in one text.
-/
import Derived.Test.YtpglhdnepmcahaaGreatDoorMgB
import Derived.Test.YtpglhdnepmcahaaGreatDoorVmF
import Derived.Test.YtpglhdnepmcahaaGreatDoorVmB
import Derived.Test.YtpglhdnepmcahaaGreatDoorLhA
/- U8Text -/
namespace Go.Proofs.YtpglhdnepmcahaaGreatDoor
open Go.RowKit Go.Lib

/-- 'string(b)' of whatever bytes -/
theorem run_strU {w : World} {v : Value} {l : List UInt8} (h : Rd w v l) : (convert 42 9 v).run Tryz.prog w = .ok (.string (ByteArray.mk ⟨l⟩)) w := by
  obtain ⟨a, c, rfl, h1, h2, h3, h4⟩ := h
  cases a with
  | none =>
    have := h4 rfl
    have hl : l = [] := List.eq_nil_of_length_eq_zero (by omega)
    subst hl
    rw [run_convert_bytes_string w 42 9 5 none _ c Tryz.underlying42 Tryz.underlying5 Tryz.underlying9]
    simp [Conv.bytesToString]
    rfl
  | some ad =>
    refine run_convert_bytes_back w 42 9 5 ad c l Tryz.underlying42 Tryz.underlying5 Tryz.underlying9 (fun j hj => ?_)
    obtain ⟨b, o, hb, hc⟩ := h3 j hj
    cases hb
    rw [Go.WideShapes.add_plain, hc]
    simp [hj]
/-- what Text answers -/
def tSpec (l : List UInt8) (a m : Int) : List UInt8 × Int × Int :=
  if a < 0 ∨ (l.length : Int) < a ∨ m < 0 then ([], 0, 1)
  else if (uSpec l a).2.2 ≠ 0 then ([], 0, (uSpec l a).2.2)
  else if m < ((uSpec l a).1 : Int) then ([], 0, 4)
  else if (l.length : Int) - (uSpec l a).2.1 < ((uSpec l a).1 : Int) then ([], 0, 9)
  else if validD ((l.drop (uSpec l a).2.1.toNat).take (uSpec l a).1) = false then ([], 0, 12)
  else ((l.drop (uSpec l a).2.1.toNat).take (uSpec l a).1, (uSpec l a).2.1 + ((uSpec l a).1 : Int), 0)
def tupT (r : List UInt8 × Int × Int) : Value := .tuple #[.string (ByteArray.mk ⟨r.1⟩), .int .i64 r.2.1, .int .i64 r.2.2]

set_option maxRecDepth 8000 in
set_option maxHeartbeats 3200000 in
theorem refText_any (v : Value) (l : List UInt8) (p m : Int) (w : World) (hv : Rd w v l) (hl : l.length ≤ 1000000000000000000) (hm : m ≤ 9223372036854775807) :
    Calls Tryz.prog 43 #[v, .int .i64 p, .int .i64 m] w fun e w' => e = .returned (tupT (tSpec l p m)) ∧ w.grownBy w' none := by
  have HU := refu_any v l p w hv
  have HV : Hid (Rd w v l) := hv
  obtain ⟨a, c, rfl, hn, hcm, hb, hz⟩ := hv
  unfold maxLen at hcm
  have hb2 : Hid (RdA w a l) := hb
  clear hb
  have hlen : (l.length : Int) ≤ 1000000000000000000 := by omega
  by_cases hbad : p < 0 ∨ (l.length : Int) < p ∨ m < 0
  · have HS : Hid (tSpec l p m = ([], 0, 1)) := by show tSpec l p m = _; rw [tSpec, if_pos hbad]
    rw [HS.out]
    clear HU
    rcases hbad with h | h | h
    · go_enter Tryz.func43, Tryz.ntmps43
      go_wp2
      go_ret3
      exact ⟨rfl, gb_refl _ _⟩
    · have h' : ¬ p < 0 := by omega
      go_enter Tryz.func43, Tryz.ntmps43
      go_wp2
      go_ret3
      exact ⟨rfl, gb_refl _ _⟩
    · by_cases h1 : p < 0
      · go_enter Tryz.func43, Tryz.ntmps43
        go_wp2
        go_ret3
        exact ⟨rfl, gb_refl _ _⟩
      · by_cases h2 : (l.length : Int) < p
        · go_enter Tryz.func43, Tryz.ntmps43
          go_wp2
          go_ret3
          exact ⟨rfl, gb_refl _ _⟩
        · go_enter Tryz.func43, Tryz.ntmps43
          go_wp2
          go_ret3
          exact ⟨rfl, gb_refl _ _⟩
  · have h1 : ¬ p < 0 := by omega
    have h2 : ¬ (l.length : Int) < p := by omega
    have h3 : ¬ m < 0 := by omega
    by_cases he : (uSpec l p).2.2 = 0
    · obtain ⟨n, k, hu, hn64, hk0, hk1, hk2⟩ := uSpec_ok he
      rw [hu] at HU
      unfold tup3 at HU
      simp only [] at HU
      rw [I64_of hn64] at HU
      have HC : Hid (Calls Tryz.prog 45 #[.slice a l.length c, .int .i64 p] w fun x w' => x = .returned (.tuple #[.int .u64 (n : Int), .int .i64 (k : Int), .int .i64 0]) ∧ w' = w) := HU
      have HS : Hid (tSpec l p m = if m < (n : Int) then ([], 0, 4) else if (l.length : Int) - (k : Int) < (n : Int) then ([], 0, 9) else if validD ((l.drop k).take n) = false then ([], 0, 12) else ((l.drop k).take n, (k : Int) + (n : Int), 0)) := by
        show tSpec l p m = _
        rw [tSpec, if_neg hbad, if_neg (by rw [he]; simp), hu]
        simp
      clear HU hu he
      have hm64 : IntKind.u64.wrap m = m := by
        unfold IntKind.wrap
        simp [IntKind.signed, IntKind.bits]
        omega
      by_cases g1 : m < (n : Int)
      · rw [HS.out, if_pos g1]
        clear HS
        go_enter Tryz.func43, Tryz.ntmps43
        go_wp2_with fail
        refine HC.out.mono ?_
        rintro x w1 ⟨rfl, rfl⟩
        go_wp2
        go_ret3
        exact ⟨rfl, gb_refl _ _⟩
      · by_cases g2 : (l.length : Int) - (k : Int) < (n : Int)
        · rw [HS.out, if_neg g1, if_pos g2]
          clear HS
          have hw1 : IntKind.u64.wrap ((l.length : Int) - (k : Int)) = (l.length : Int) - (k : Int) := by
            unfold IntKind.wrap
            simp [IntKind.signed, IntKind.bits]
            omega
          go_enter Tryz.func43, Tryz.ntmps43
          go_wp2_with fail
          refine HC.out.mono ?_
          rintro x w1 ⟨rfl, rfl⟩
          go_wp2
          go_ret3
          exact ⟨rfl, gb_refl _ _⟩
        · rw [HS.out, if_neg g1, if_neg g2]
          clear HS
          have hw1 : IntKind.u64.wrap ((l.length : Int) - (k : Int)) = (l.length : Int) - (k : Int) := by
            unfold IntKind.wrap
            simp [IntKind.signed, IntKind.bits]
            omega
          obtain ⟨g, o, rfl, -⟩ := hb2.out 0 (by omega)
          obtain ⟨q, hq⟩ : ∃ q, (l.drop k).take n = q := ⟨_, rfl⟩
          have hql : q.length = n := by rw [← hq]; exact cut_len l k n (by omega)
          rw [hq]
          have HUt : Hid (∀ W, Calls Tryz.prog 75 #[.string (ByteArray.mk ⟨q⟩)] W fun e w' => e = .returned (.bool (validD q)) ∧ W.grownBy w' none) := fun W => utf8_walk W q (by omega)
          have HQ : Hid (∀ h : k < c, Rd w (.slice (some ⟨g, o + k, none⟩) n (c - k)) q) := fun h => by rw [← hq]; exact HV.out.cut k n (by omega)
          have HQ0 : Hid (∀ h : c ≤ k, Rd w (.slice (some ⟨g, o, none⟩) n 0) q) := fun h => by rw [← hq]; exact HV.out.cut0 k n h (by omega)
          obtain ⟨V, hV⟩ : ∃ V, validD q = V := ⟨_, rfl⟩
          rw [hV] at HUt ⊢
          clear hq hV
          have hnl : (n : Int) ≤ (l.length : Int) := by omega
          cases V with
          | false =>
            by_cases hkc : k < c
            · simp only [if_true]
              have hcv := run_strU (HQ.out hkc)
              go_enter Tryz.func43, Tryz.ntmps43
              go_wp2_with fail
              refine HC.out.mono ?_
              rintro x w1 ⟨rfl, rfl⟩
              go_wp2_with fail
              refine (HUt.out _).mono ?_
              rintro x w2 ⟨rfl, hg2⟩
              have H2 := hid_mkU hg2
              clear hg2 hcv
              go_wp2
              go_ret3
              exact ⟨rfl, H2.out⟩
            · simp only [if_true]
              have hcv := run_strU (HQ0.out (by omega))
              go_enter Tryz.func43, Tryz.ntmps43
              go_wp2_with fail
              refine HC.out.mono ?_
              rintro x w1 ⟨rfl, rfl⟩
              go_wp2_with fail
              refine (HUt.out _).mono ?_
              rintro x w2 ⟨rfl, hg2⟩
              have H2 := hid_mkU hg2
              clear hg2 hcv
              go_wp2
              go_ret3
              exact ⟨rfl, H2.out⟩
          | true =>
            by_cases hkc : k < c
            · simp only [Bool.true_eq_false, if_false]
              have hcv := run_strU (HQ.out hkc)
              go_enter Tryz.func43, Tryz.ntmps43
              go_wp2_with fail
              refine HC.out.mono ?_
              rintro x w1 ⟨rfl, rfl⟩
              go_wp2_with fail
              refine (HUt.out _).mono ?_
              rintro x w2 ⟨rfl, hg2⟩
              have H2 := hid_mkU hg2
              clear hg2 hcv
              go_wp2
              go_ret3
              exact ⟨rfl, H2.out⟩
            · simp only [Bool.true_eq_false, if_false]
              have hcv := run_strU (HQ0.out (by omega))
              go_enter Tryz.func43, Tryz.ntmps43
              go_wp2_with fail
              refine HC.out.mono ?_
              rintro x w1 ⟨rfl, rfl⟩
              go_wp2_with fail
              refine (HUt.out _).mono ?_
              rintro x w2 ⟨rfl, hg2⟩
              have H2 := hid_mkU hg2
              clear hg2 hcv
              go_wp2
              go_ret3
              exact ⟨rfl, H2.out⟩
    · have HS : Hid (tSpec l p m = ([], 0, (uSpec l p).2.2)) := by show tSpec l p m = _; rw [tSpec, if_neg hbad, if_pos he]
      rw [HS.out]
      have hne : ((uSpec l p).2.2 != 0) = true := by rw [bne_iff_ne]; exact he
      unfold tup3 at HU
      clear HS
      generalize (uSpec l p).2.2 = e at *
      generalize (uSpec l p).2.1 = r at *
      generalize (uSpec l p).1 = q at *
      have HC : Hid (Calls Tryz.prog 45 #[.slice a l.length c, .int .i64 p] w fun x w' => x = .returned (.tuple #[.int .u64 (I64 (BitVec.ofNat 64 q)), .int .i64 r, .int .i64 e]) ∧ w' = w) := HU
      clear HU he
      go_enter Tryz.func43, Tryz.ntmps43
      go_wp2_with fail
      refine HC.out.mono ?_
      rintro x w1 ⟨rfl, rfl⟩
      go_wp2
      go_ret3
      exact ⟨rfl, gb_refl _ _⟩
end Go.Proofs.YtpglhdnepmcahaaGreatDoor

/- LbRf -/
namespace Go.Proofs.YtpglhdnepmcahaaGreatDoor
open Go.RowKit

/-- one label in a new box, to be appended -/
theorem box_rdc (w : World) (x y : ByteArray) : RdC (w.alloc (.cells #[.string x, .string y] 51)) (some ⟨w.heap.size, 0, none⟩) [.string x, .string y] := by
  intro j u hj
  refine ⟨_, rfl, ?_⟩
  rw [Go.WideShapes.add_plain]
  have ha := Go.heap_alloc_new w (.cells #[.string x, .string y] 51)
  simp only [World.cell?, ha]
  simpa using hj
theorem box_rdc1 (w : World) (C : Obj) (x y : ByteArray) : RdC ((w.alloc C).alloc (.cells #[.string x, .string y] 51)) (some ⟨w.heap.size + 1, 0, none⟩) [.string x, .string y] := by
  have h := box_rdc (w.alloc C) x y
  rwa [World.size_alloc] at h
theorem two_one (x y : ByteArray) : ∀ u ∈ [Value.string x, Value.string y], u.oneCell' = true := by
  intro u hu
  simp only [List.mem_cons, List.not_mem_nil, or_false] at hu
  rcases hu with rfl | rfl <;> rfl
theorem OwnL.snoc {w : World} {base : Nat} {v : Value} {ls : List LbT} {x y : List UInt8} (h : w.ownsRow base 51 2 v (ls.length + 1) (lbf ls ++ [.string (ByteArray.mk ⟨x⟩), .string (ByteArray.mk ⟨y⟩)])) : OwnL w base v (ls ++ [(x, y)]) := by
  unfold OwnL
  rw [List.length_append, lbf_append]
  exact h
theorem OwnL.nil (w : World) (base : Nat) : OwnL w base (.slice none 0 0) [] := World.ownsRow_nil w base _ _

end Go.Proofs.YtpglhdnepmcahaaGreatDoor

/- LbBp -/
namespace Go.Proofs.YtpglhdnepmcahaaGreatDoor
open Go.RowKit

theorem Bx.frozen {w W : World} {b0 : Nat} {x y : ByteArray} (h : Bx w b0 x y W) (j : Nat) : W.frozen? ⟨b0, j, none⟩ = false := by simp [World.frozen?, h.1]
theorem Bx.put0 {w W : World} {b0 : Nat} {x y : ByteArray} (h : Bx w b0 x y W) (hb : w.heap.size ≤ b0) (x' : ByteArray) : Bx w b0 x' y (W.setCell ⟨b0, 0, none⟩ (.string x')) := by
  refine ⟨by have := heap_setCell_same W b0 0 _ _ (.string x') h.1; simpa using this, gb_new h.2 (g' := some b0) ⟨rfl, rfl, rfl, by simp, fun k _ hk => Below.heap_setCell _ _ _ _ (fun e => hk (by rw [e]))⟩ (fun k hk => by cases hk; exact hb)⟩
theorem Bx.put1 {w W : World} {b0 : Nat} {x y : ByteArray} (h : Bx w b0 x y W) (hb : w.heap.size ≤ b0) (y' : ByteArray) : Bx w b0 x y' (W.setCell ⟨b0, 1, none⟩ (.string y')) := by
  refine ⟨by have := heap_setCell_same W b0 1 _ _ (.string y') h.1; simpa using this, gb_new h.2 (g' := some b0) ⟨rfl, rfl, rfl, by simp, fun k _ hk => Below.heap_setCell _ _ _ _ (fun e => hk (by rw [e]))⟩ (fun k hk => by cases hk; exact hb)⟩
/-- one label at a place: its name, its value, the place behind it, what is wrong -/
def oneS (l : List UInt8) (p : Int) : List UInt8 × List UInt8 × Int × Int :=
  if (tSpec l p 64).2.2 ≠ 0 then ([], [], 0, (tSpec l p 64).2.2)
  else if (tSpec l (tSpec l p 64).2.1 256).2.2 ≠ 0 then ([], [], 0, (tSpec l (tSpec l p 64).2.1 256).2.2)
  else ((tSpec l p 64).1, (tSpec l (tSpec l p 64).2.1 256).1, (tSpec l (tSpec l p 64).2.1 256).2.1, 0)
def readN (l : List UInt8) : Nat → Int → List LbT → List LbT × Int × Int
  | 0, p, acc => (acc, p, 0)
  | n + 1, p, acc => if (oneS l p).2.2.2 ≠ 0 then ([], 0, (oneS l p).2.2.2) else readN l n (oneS l p).2.2.1 (acc ++ [((oneS l p).1, (oneS l p).2.1)])
def readS (l : List UInt8) (p : Int) : List LbT × Int × Int :=
  if (uSpec l p).2.2 ≠ 0 then ([], 0, (uSpec l p).2.2) else if 16 < (uSpec l p).1 then ([], 0, 8)
  else if (readN l (uSpec l p).1 (uSpec l p).2.1 []).2.2 ≠ 0 then ([], 0, (readN l (uSpec l p).1 (uSpec l p).2.1 []).2.2)
  else if (rightS (readN l (uSpec l p).1 (uSpec l p).2.1 []).1).1 ≠ 0 then ([], 0, (rightS (readN l (uSpec l p).1 (uSpec l p).2.1 []).1).1)
  else ((readN l (uSpec l p).1 (uSpec l p).2.1 []).1, (readN l (uSpec l p).1 (uSpec l p).2.1 []).2.1, 0)
theorem tSpec_short (l : List UInt8) (p m : Int) : (tSpec l p m).1.length ≤ l.length := by
  unfold tSpec
  split
  · simp
  · split
    · simp
    · split
      · simp
      · split
        · simp
        · split
          · simp
          · show ((l.drop _).take _).length ≤ l.length
            rw [List.length_take, List.length_drop]
            omega
theorem oneS_short (l : List UInt8) (p : Int) : (oneS l p).1.length ≤ l.length ∧ (oneS l p).2.1.length ≤ l.length := by
  unfold oneS
  split
  · simp
  · split
    · simp
    · exact ⟨tSpec_short _ _ _, tSpec_short _ _ _⟩
theorem uSpec_nat {l : List UInt8} {p : Int} (h : (uSpec l p).2.2 = 0) : (uSpec l p).1 < 18446744073709551616 := by
  obtain ⟨n, k, e, hn, -⟩ := uSpec_ok h
  rw [e]; exact hn
/-- a list of labels grown by one, within bounds -/
theorem LbIn.snoc {acc : List LbT} {x y : List UInt8} (h : LbIn acc) (hl : acc.length + 1 ≤ 1000000000000000000) (hx : x.length ≤ 1000000000000000000) (hy : y.length ≤ 1000000000000000000) : LbIn (acc ++ [(x, y)]) := by
  refine ⟨by simp; omega, fun j => ?_⟩
  by_cases hj : j < acc.length
  · have : (acc ++ [(x, y)]).getD j ([], []) = acc.getD j ([], []) := by simp [List.getElem?_append_left hj]
    rw [this]; exact h.2 j
  · by_cases hj2 : j = acc.length
    · have : (acc ++ [(x, y)]).getD j ([], []) = (x, y) := by subst hj2; simp
      rw [this]; exact ⟨hx, hy⟩
    · have : (acc ++ [(x, y)]).getD j ([], []) = ([], []) := by
        have h0 : (acc ++ [(x, y)])[j]? = none := List.getElem?_eq_none (by simp; omega)
        rw [List.getD, h0]; rfl
      rw [this]; simp


theorem readN_step (l : List UInt8) {n z : Nat} (q : Int) (acc : List LbT) (hz : z < n) : readN l (n - z) q acc = if (oneS l q).2.2.2 ≠ 0 then ([], 0, (oneS l q).2.2.2) else readN l (n - (z + 1)) (oneS l q).2.2.1 (acc ++ [((oneS l q).1, (oneS l q).2.1)]) := by
  obtain ⟨m, hm⟩ : ∃ m, n - z = m + 1 := ⟨n - z - 1, by omega⟩
  rw [hm, readN, show n - (z + 1) = m by omega]
end Go.Proofs.YtpglhdnepmcahaaGreatDoor
