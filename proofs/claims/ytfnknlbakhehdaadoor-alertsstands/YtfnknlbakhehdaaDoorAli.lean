/-
  What must come of fixed calls: known: the walk.
-/
import Derived.Test.YtfnknlbakhehdaaDoorAlh
namespace Go.Proofs.YtfnknlbakhehdaaDoor
open Go.RowKit Go.Shelf Go.Sort Go.Maps Go.WideMaps

/-- a set whose blocks are told -/
def SetB (w : World) (S : Nat → Prop) (gx : Nat) (R most : Int) (M : List AlR) : Prop := PrjOK w S gx R most M ∧ ∀ k, S k → k < w.heap.size
theorem SetB.keep {w w' : World} {S : Nat → Prop} {gx : Nat} {R most : Int} {M : List AlR} (h : SetB w S gx R most M) (hg : w.grownBy w' none) : SetB w' S gx R most M := ⟨h.1.keep hg, fun k hk => Nat.lt_of_lt_of_le (h.2 k hk) hg.size⟩
theorem SetB.ptr {w : World} {S : Nat → Prop} {gx : Nat} {R most : Int} {M : List AlR} (h : SetB w S gx R most M) : PtrA w (.pointer (some ⟨gx, 0, none⟩)) M := .inr ⟨S, gx, R, most, rfl, h.1, h.2⟩
theorem SetB.gr {w w' : World} {S : Nat → Prop} {gx : Nat} {R most : Int} {M M' : List AlR} (h : SetB w S gx R most M) (h2 : PrjOK w' (Gr S w w') gx R most M') (hc : Ch w w' S) : SetB w' (Gr S w w') gx R most M' := ⟨h2, fun k hk => by
  rcases hk with hk | hk
  · exact Nat.lt_of_lt_of_le (h.2 k hk) hc.size
  · exact hk.2⟩
/-- PUT -/
theorem setB_put (w : World) (S : Nat → Prop) (gx : Nat) (R most now st en : Int) (M : List AlR) (u : Value) (ls : List LbT) (h : SetB w S gx R most M) (hu : RdL w u ls) (hl : LbIn ls) (hT : U8S w) :
    Calls Tryd.prog 17 #[.pointer (some ⟨gx, 0, none⟩), .int .i64 now, alV u st en] w fun e w' => e = .returned (.int .i64 (putE R most now ⟨ls, st, en⟩ M)) ∧ SetB w' (Gr S w w') gx R most (putM R most now ⟨ls, st, en⟩ M) ∧ Ch w w' S :=
  (setPut_any w S gx R most now st en M u ls h.1 hu hl hT).mono fun _ _ ⟨h1, h2, h3⟩ => ⟨h1, h.gr h2 h3, h3⟩
theorem setB_new (w : World) (R most : Int) (h : newOk R most) :
    Calls Tryd.prog 7 #[.int .i64 R, .int .i64 most] w fun e w' => ∃ gx, e = .returned (.pointer (some ⟨gx, 0, none⟩)) ∧ SetB w' (fun k => w.heap.size ≤ k ∧ k < w'.heap.size) gx R most [] ∧ w.grownBy w' none :=
  (newOK_any w R most h).mono fun _ _ ⟨gx, h1, h2, h3⟩ => ⟨gx, h1, ⟨h2, fun _ hk => hk.2⟩, h3⟩

def laK : List LbT := [([97], [49])]
theorem laK_in : LbIn laK := by
  refine ⟨by decide, fun j => ?_⟩
  match j with
  | 0 => exact ⟨by decide, by decide⟩
  | j + 1 => simp [laK]
theorem laK_right : (rightS laK).1 = 0 := by decide +kernel
theorem laK_put1 : putE 100 5 10 ⟨laK, 0, 0⟩ [] = 0 ∧ putM 100 5 10 ⟨laK, 0, 0⟩ [] = [⟨laK, 10, 110⟩] := by
  have hd : dateE 100 10 ⟨laK, 0, 0⟩ = 0 := by
    unfold dateE
    rw [if_neg (by unfold isT; omega), if_neg (by rw [laK_right]; simp [laK]), if_neg (by unfold isB; simp)]
    rfl
  have hE : putE 100 5 10 ⟨laK, 0, 0⟩ [] = 0 := by unfold putE; rw [if_neg (by simpa using hd), if_neg (by simp)]
  refine ⟨hE, ?_⟩
  unfold putM
  rw [if_pos hE]
  rfl
theorem laK_find (a : AlR) (h : a.lbs = laK) : findA [a] laK = some a := by
  unfold findA
  simp [h]
theorem laK_put2 : putE 100 5 50 ⟨laK, 20, 0⟩ [⟨laK, 10, 110⟩] = 0 ∧ putM 100 5 50 ⟨laK, 20, 0⟩ [⟨laK, 10, 110⟩] = [⟨laK, 10, 150⟩] := by
  have hd : dateE 100 50 ⟨laK, 20, 0⟩ = 0 := by
    unfold dateE
    rw [if_neg (by unfold isT; omega), if_neg (by rw [laK_right]; simp [laK]), if_neg (by unfold isB; simp)]
    rfl
  have hf := laK_find ⟨laK, 10, 110⟩ rfl
  have hE : putE 100 5 50 ⟨laK, 20, 0⟩ [⟨laK, 10, 110⟩] = 0 := by unfold putE; rw [if_neg (by simpa using hd), if_neg (by rw [hf]; simp)]
  refine ⟨hE, ?_⟩
  unfold putM
  rw [if_pos hE]
  have hn : newA 100 50 ⟨laK, 20, 0⟩ [⟨laK, 10, 110⟩] = ⟨laK, 10, 150⟩ := by
    unfold newA
    simp only [hf]
    rfl
  rw [hn]
  unfold addA ltA gtA
  have hz : cmpLs laK laK = 0 := (cmpLs_zero _ _).2 rfl
  simp [hz]
theorem laK_get : getA [⟨laK, 10, 150⟩] laK = ⟨laK, 10, 150⟩ ∧ (findA [⟨laK, 10, 150⟩] laK).isSome = true := by
  have hf := laK_find ⟨laK, 10, 150⟩ rfl
  unfold getA
  rw [hf]
  exact ⟨rfl, rfl⟩
theorem laK_f1 : fireM 149 [⟨laK, 10, 150⟩] = [⟨laK, 10, 150⟩] := rfl
theorem laK_f2 : fireM 150 [⟨laK, 10, 150⟩] = [] := rfl
theorem len_of_map {l : List AlX} {M : List AlR} (h : l.map (·.2) = M) : l.length = M.length := by rw [← h, List.length_map]

set_option maxRecDepth 8000 in
set_option maxHeartbeats 6400000 in
theorem known_any (w : World) (hT : U8S w) : Calls Tryd.prog 9 #[] w fun e w' => e = .returned (.bool true) ∧ w.grownBy w' none := by
  have HT := hidJ hT
  have HN := hidJ (setB_new w 100 5 ⟨⟨by omega, by omega⟩, by omega, by omega⟩)
  clear hT
  go_enter Tryd.func9, Tryd.ntmps9
  go_wp2_with fail
  refine HN.out.mono ?_
  rintro e w1 ⟨gx, rfl, q1, q2⟩
  have H1 := hidJ (And.intro q1 q2)
  clear HN q1 q2
  have HP1 : Hid (∀ C, C = (Obj.cells #[.string ⟨#[97]⟩, .string ⟨#[49]⟩] 63) → Calls Tryd.prog 17 #[.pointer (some ⟨gx, 0, none⟩), .int .i64 10, .agg #[.slice (some ⟨w1.heap.size, 0, none⟩) 1 1, .int .i64 0, .int .i64 0]] (w1.alloc C) fun e w' => e = .returned (.int .i64 0) ∧ Hid (∃ S, SetB w' S gx 100 5 [⟨laK, 10, 110⟩] ∧ RdL w' (.slice (some ⟨w1.heap.size, 0, none⟩) 1 1) laK ∧ ¬ S w1.heap.size ∧ (∀ k, S k → w.heap.size ≤ k) ∧ w.grownBy w' none)) := by
    rintro C rfl
    have k := World.grownBy_alloc w1 (.cells #[.string ⟨#[97]⟩, .string ⟨#[49]⟩] 63) none
    have hb := Go.heap_alloc_new w1 (.cells #[.string ⟨#[97]⟩, .string ⟨#[49]⟩] 63)
    have hrd : RdL (w1.alloc (.cells #[.string ⟨#[97]⟩, .string ⟨#[49]⟩] 63)) (.slice (some ⟨w1.heap.size, 0, none⟩) 1 1) laK := by
      refine ⟨some ⟨w1.heap.size, 0, none⟩, 1, rfl, by decide, by unfold maxLen; omega, fun j hj => ?_, fun h => by cases h⟩
      have hj0 : j = 0 := by simp [laK] at hj; exact hj
      subst hj0
      exact ⟨w1.heap.size, 0, rfl, by simp only [World.cell?, hb]; rfl, by simp only [World.cell?, hb]; rfl⟩
    have hp := setB_put _ _ gx 100 5 10 0 0 [] (.slice (some ⟨w1.heap.size, 0, none⟩) 1 1) laK (H1.out.1.keep k) hrd laK_in (HT.out.keep (gb_none H1.out.2 k))
    rw [laK_put1.1, laK_put1.2] at hp
    unfold alV at hp
    refine hp.mono ?_
    rintro e w' ⟨rfl, r1, r2⟩
    have hz := H1.out.2.size
    refine ⟨rfl, _, r1, hrd.ch r2 (fun x hx _ e => ?_), ?_, fun x hx => ?_, gb_ch (gb_none H1.out.2 k) r2 (fun x hx => hx.1)⟩
    · simp only [Value.ownBlock, Option.some.injEq] at hx
      omega
    · rintro (e | e)
      · omega
      · simp at e
        omega
    · rcases hx with hx | hx
      · exact hx.1
      · simp at hx
        omega
  go_wp2_with fail
  refine (HP1.out _ rfl).mono ?_
  rintro e w2 ⟨rfl, H2⟩
  clear HP1 H1
  have HP2 : Hid (Calls Tryd.prog 17 #[.pointer (some ⟨gx, 0, none⟩), .int .i64 50, .agg #[.slice (some ⟨w1.heap.size, 0, none⟩) 1 1, .int .i64 20, .int .i64 0]] w2 fun e w' => e = .returned (.int .i64 0) ∧ Hid (∃ S, SetB w' S gx 100 5 [⟨laK, 10, 150⟩] ∧ RdL w' (.slice (some ⟨w1.heap.size, 0, none⟩) 1 1) laK ∧ w.grownBy w' none)) := by
    obtain ⟨S, r1, r2, r3, r4, r5⟩ := H2.out
    have hp := setB_put w2 S gx 100 5 50 20 0 [⟨laK, 10, 110⟩] (.slice (some ⟨w1.heap.size, 0, none⟩) 1 1) laK r1 r2 laK_in (HT.out.keep r5)
    rw [laK_put2.1, laK_put2.2] at hp
    unfold alV at hp
    refine hp.mono ?_
    rintro e w' ⟨rfl, t1, t2⟩
    refine ⟨rfl, _, t1, r2.ch t2 (fun x hx _ e => ?_), gb_ch r5 t2 r4⟩
    simp only [Value.ownBlock, Option.some.injEq] at hx
    subst hx
    exact r3 e
  go_wp2_with fail
  refine HP2.out.mono ?_
  rintro e w3 ⟨rfl, H3⟩
  clear HP2 H2
  have HG : Hid (Calls Tryd.prog 16 #[.pointer (some ⟨gx, 0, none⟩), .slice (some ⟨w1.heap.size, 0, none⟩) 1 1] w3 fun e w' => ∃ a n c, e = .returned (.tuple #[.agg #[.slice a n c, .int .i64 10, .int .i64 150], .bool true]) ∧ Hid (∃ S, SetB w' S gx 100 5 [⟨laK, 10, 150⟩] ∧ w.grownBy w' none)) := by
    obtain ⟨S, r1, r2, r3⟩ := H3.out
    have hp := get_any w3 S gx 100 5 [⟨laK, 10, 150⟩] (.slice (some ⟨w1.heap.size, 0, none⟩) 1 1) laK r1.1 r2 laK_in (HT.out.keep r3)
    rw [laK_get.1, laK_get.2] at hp
    refine hp.mono ?_
    rintro e w' ⟨v', rfl, t1, t2⟩
    obtain ⟨a, c, rfl⟩ := t1.shape
    exact ⟨a, _, c, rfl, S, r1.keep t2, gb_none r3 t2⟩
  go_wp2_with fail
  refine HG.out.mono ?_
  rintro e w4 ⟨a4, n4, c4, rfl, H4⟩
  clear HG H3
  have HF1 : Hid (∀ C, Calls Tryd.prog 21 #[.pointer (some ⟨gx, 0, none⟩), .int .i64 149] (w4.alloc C) fun e w' => ∃ a c, e = .returned (.slice a 1 c) ∧ Hid (∃ S, SetB w' S gx 100 5 [⟨laK, 10, 150⟩] ∧ w.grownBy w' none)) := by
    intro C
    obtain ⟨S, r1, r3⟩ := H4.out
    have k := World.grownBy_alloc w4 C none
    refine (firing_any _ (.pointer (some ⟨gx, 0, none⟩)) 149 _ ⟨_, rfl⟩ (r1.keep k).ptr).mono ?_
    rintro e w' ⟨v', l, rfl, t1, t2, t3, t4⟩
    obtain ⟨a, c, rfl⟩ := t1.shape
    rw [laK_f1] at t2
    rw [len_of_map t2]
    exact ⟨a, c, rfl, S, (r1.keep k).keep t4, gb_none (gb_none r3 k) t4⟩
  have HF2 : Hid (∀ W, (∃ S, SetB W S gx 100 5 [⟨laK, 10, 150⟩] ∧ w.grownBy W none) → Calls Tryd.prog 21 #[.pointer (some ⟨gx, 0, none⟩), .int .i64 150] W fun e w' => ∃ a c, e = .returned (.slice a 0 c) ∧ Hid (w.grownBy w' none)) := by
    rintro W ⟨S, r1, r3⟩
    refine (firing_any _ (.pointer (some ⟨gx, 0, none⟩)) 150 _ ⟨_, rfl⟩ r1.ptr).mono ?_
    rintro e w' ⟨v', l, rfl, t1, t2, t3, t4⟩
    obtain ⟨a, c, rfl⟩ := t1.shape
    rw [laK_f2] at t2
    rw [len_of_map t2]
    exact ⟨a, c, rfl, gb_none r3 t4⟩
  go_wp2_with fail
  refine (HF1.out _).mono ?_
  rintro e w5 ⟨a5, c5, rfl, H5⟩
  clear HF1 H4
  go_wp2_with fail
  refine (HF2.out _ H5.out).mono ?_
  rintro e w6 ⟨a6, c6, rfl, H6⟩
  clear HF2 H5
  go_wp2
  go_ret
  exact ⟨rfl, H6.out⟩
end Go.Proofs.YtfnknlbakhehdaaDoor
