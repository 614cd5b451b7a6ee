/-
  LbFa, LbFb, LbFc, LbFd, LbFe, in one text.
-/
import Derived.Test.YtkipnkpnkhfjhabGreatDoorLbL
import Derived.Lib.ValidLaws
import Derived.Test.YtkipnkpnkhfjhabGreatDoorLbK
import Derived.Test.YtkipnkpnkhfjhabGreatDoorLbJq
import Derived.Test.YtkipnkpnkhfjhabGreatDoorKmG
/- LbFa -/
namespace Go.Proofs.YtkipnkpnkhfjhabGreatDoor
open Go.RowKit

def dg (n : Nat) : UInt8 := UInt8.ofNat (97 + n % 10)
theorem dg_nat (n : Nat) : (dg n).toNat = 97 + n % 10 := by
  unfold dg
  rw [UInt8.toNat_ofNat']
  omega
def numS (n : Nat) : List UInt8 := if n < 10 then [dg n] else numS (n / 10) ++ [dg n]
termination_by n
decreasing_by omega
theorem numS_low {n : Nat} (h : n < 10) : numS n = [dg n] := by rw [numS, if_pos h]
theorem numS_high {n : Nat} (h : ¬ n < 10) : numS n = numS (n / 10) ++ [dg n] := by rw [numS, if_neg h]
theorem numS_ne (n : Nat) : numS n ≠ [] := by
  by_cases h : n < 10
  · rw [numS_low h]; simp
  · rw [numS_high h]; simp
def deS (l : List UInt8) : Nat := l.foldl (fun a c => a * 10 + (c.toNat - 97)) 0
theorem deS_num : ∀ n, deS (numS n) = n := by
  intro n
  induction n using Nat.strongRecOn with
  | ind n ih =>
    by_cases h : n < 10
    · rw [numS_low h]
      simp only [deS, List.foldl_cons, List.foldl_nil, dg_nat]
      omega
    · rw [numS_high h]
      unfold deS
      rw [List.foldl_append]
      have := ih (n / 10) (by omega)
      unfold deS at this
      rw [this]
      simp only [List.foldl_cons, List.foldl_nil, dg_nat]
      omega
theorem numS_inj {n m : Nat} (h : numS n = numS m) : n = m := by
  rw [← deS_num n, ← deS_num m, h]
theorem numS_mem : ∀ n, ∀ c ∈ numS n, 97 ≤ c.toNat ∧ c.toNat < 107 := by
  intro n
  induction n using Nat.strongRecOn with
  | ind n ih =>
    intro c hc
    by_cases h : n < 10
    · rw [numS_low h] at hc
      simp only [List.mem_cons, List.not_mem_nil, or_false] at hc
      rw [hc, dg_nat]
      omega
    · rw [numS_high h] at hc
      rcases List.mem_append.1 hc with hc | hc
      · exact ih (n / 10) (by omega) c hc
      · simp only [List.mem_cons, List.not_mem_nil, or_false] at hc
        rw [hc, dg_nat]
        omega
theorem numS_len {n : Nat} (h : n < 1000) : (numS n).length ≤ 3 := by
  by_cases h1 : n < 10
  · rw [numS_low h1]; simp
  · rw [numS_high h1]
    by_cases h2 : n / 10 < 10
    · rw [numS_low h2]; simp
    · rw [numS_high h2, numS_low (by omega)]
      simp
def numL (n : Nat) : List LbT := [([110], numS n)]
theorem numL_in {n : Nat} (h : n < 1000) : LbIn (numL n) := by
  refine ⟨by simp [numL], fun j => ?_⟩
  cases j with
  | zero =>
    have := numS_len h
    exact ⟨by simp [numL], by show (numS n).length ≤ _; omega⟩
  | succ j => simp [numL]
theorem numL_inj {n m : Nat} (h : numL n = numL m) : n = m := by
  simp [numL] at h
  exact numS_inj h
theorem numL_right {n : Nat} (h : n < 1000) : (rightS (numL n)).1 = 0 := by
  have hv : Lib.validD (numS n) = true := by
    rw [Lib.validD_ascii (numS n).length (numS n) (fun c hc => by rw [List.take_of_length_le (Nat.le_refl _)] at hc; have := (numS_mem n c hc).2; omega), List.drop_of_length_le (Nat.le_refl _)]
    rfl
  have h1 : oneE [110] (numS n) = 0 := by
    unfold oneE
    rw [if_neg (by decide), if_neg (numS_ne n), if_neg (by have := numS_len h; omega), if_neg (by rw [hv]; decide)]
  have h2 : errAt (numL n) 0 = 0 := by
    unfold errAt
    rw [show (numL n).getD 0 ([], []) = ([110], numS n) from rfl, if_neg (by simpa using h1), if_neg (by simp)]
  unfold rightS
  rw [if_neg (by simp [numL])]
  show (firstAt (numL n) 1 0).1 = 0
  rw [firstAt_step _ _ _ h2]
  rfl
end Go.Proofs.YtkipnkpnkhfjhabGreatDoor

/- LbFb -/
namespace Go.Proofs.YtkipnkpnkhfjhabGreatDoor
open Go.RowKit

def NInv (n m : Nat) (s : List UInt8) : Prop := (s = [] ∧ m = n) ∨ (s ≠ [] ∧ ((m = 0 ∧ s = numS n) ∨ (0 < m ∧ numS m ++ s = numS n)))
theorem NInv.step {n m : Nat} {s : List UInt8} (h : NInv n m s) (hc : 0 < m ∨ s = []) : NInv n (m / 10) (dg m :: s) := by
  refine .inr ⟨by simp, ?_⟩
  have key : numS m ++ s = numS n := by
    rcases h with ⟨rfl, rfl⟩ | ⟨h1, ⟨h2, _⟩ | ⟨_, h2⟩⟩
    · simp
    · rcases hc with hc | hc
      · omega
      · exact absurd hc h1
    · exact h2
  by_cases hm : m < 10
  · refine .inl ⟨by omega, ?_⟩
    rw [numS_low hm] at key
    exact key
  · refine .inr ⟨by omega, ?_⟩
    rw [numS_high hm, List.append_assoc] at key
    exact key
theorem NInv.fin {n : Nat} {s : List UInt8} (h : NInv n 0 s) (hs : s ≠ []) : s = numS n := by
  rcases h with ⟨h, _⟩ | ⟨_, ⟨_, h⟩ | ⟨h, _⟩⟩
  · exact absurd h hs
  · exact h
  · omega
theorem mk_appF (a b : List UInt8) : ByteArray.mk ⟨a⟩ ++ ByteArray.mk ⟨b⟩ = ByteArray.mk ⟨a ++ b⟩ := by
  apply ByteArray.ext
  simp

def emptyV : Value → Nat
  | .string s => if s.size = 0 then 1 else 0
  | _ => 0
theorem enc_dg (m : Nat) : Utf8.encode (97 + (m : Int) % 10) = ByteArray.mk ⟨[dg m]⟩ := by
  have key : ∀ d : Nat, d < 10 → Utf8.encode (97 + (d : Int)) = ByteArray.mk ⟨[UInt8.ofNat (97 + d)]⟩ := by
    intro d hd
    match d, hd with
    | 0, _ => decide +kernel
    | 1, _ => decide +kernel
    | 2, _ => decide +kernel
    | 3, _ => decide +kernel
    | 4, _ => decide +kernel
    | 5, _ => decide +kernel
    | 6, _ => decide +kernel
    | 7, _ => decide +kernel
    | 8, _ => decide +kernel
    | 9, _ => decide +kernel
  have e : (m : Int) % 10 = ((m % 10 : Nat) : Int) := by omega
  rw [e]
  exact key (m % 10) (Nat.mod_lt _ (by decide))
theorem NInv.len {n m : Nat} {s : List UInt8} (hn : n < 1000) (h : NInv n m s) : s.length ≤ 3 := by
  have h3 := numS_len hn
  rcases h with ⟨rfl, _⟩ | ⟨_, ⟨_, h⟩ | ⟨_, h⟩⟩
  · simp
  · rw [h]; exact h3
  · have := congrArg List.length h
    rw [List.length_append] at this
    omega

set_option maxRecDepth 8000 in
set_option maxHeartbeats 3200000 in
theorem numbered_any (w : World) (n : Nat) (hn : n < 1000) :
    Calls Tryz.prog 11 #[.int .i64 (n : Int)] w fun e w' => e = .returned (.slice (some ⟨w.heap.size, 0, none⟩) 1 1) ∧ w' = w.alloc (.cells #[.string (ByteArray.mk ⟨[110]⟩), .string (ByteArray.mk ⟨numS n⟩)] 70) := by
  go_enter Tryz.func11, Tryz.ntmps11
  go_wp2
  go_loopw [0, 3] (fun u0 u3 wr => ∃ (m : Nat) (s : List UInt8), m < 1000 ∧ u0 = .int .i64 m ∧ u3 = .string (ByteArray.mk ⟨s⟩) ∧ Hid (wr = w ∧ NInv n m s)) (fun u0 u3 _ => (intOf u0).toNat + emptyV u3)
  case atStart => exact ⟨n, [], hn, rfl, rfl, rfl, .inl ⟨rfl, rfl⟩⟩
  case round =>
    obtain ⟨m, s, hm, rfl, rfl, hr⟩ := hrel
    have hsl := hr.out.2.len hn
    have HR := hr
    clear hr
    by_cases hc : 0 < m ∨ s = []
    · have henc := enc_dg m
      have happ := mk_appF [dg m] s
      have HS := HR.out.2.step hc
      have HS : Hid (NInv n (m / 10) (dg m :: s)) := HS
      have hme : ((m : Int) / 10).toNat = m / 10 := by omega
      generalize hcg : dg m = c at *
      clear hcg
      by_cases h0 : 0 < m
      · have h0i : (0 : Int) < (m : Int) := by omega
        go_wp2
        go_roundw
        case rel => exact ⟨m / 10, c :: s, by omega, by congr 1, by simp, HR.out.1, HS.out⟩
        case measure =>
          have he : emptyV (.string (ByteArray.mk ⟨c :: s⟩)) = 0 := by simp [emptyV, ByteArray.size]
          simp [intOf, emptyV, ByteArray.size]
          omega
      · have hs0 : s = [] := by
          rcases hc with h | h
          · exact absurd h h0
          · exact h
        subst hs0
        have hm0 : m = 0 := by omega
        subst hm0
        have henc0 : Utf8.encode 97 = ByteArray.mk ⟨[c]⟩ := by
          have := henc
          simpa using this
        clear henc hme
        go_wp2
        go_roundw
        case rel => exact ⟨0, [c], by omega, rfl, by simp, HR.out.1, HS.out⟩
        case measure =>
          simp [intOf, emptyV, ByteArray.size]
    · have hm0 : m = 0 := by omega
      subst hm0
      have hs : ¬ s = [] := fun e => hc (.inr e)
      obtain ⟨e1, e2, e3⟩ := empty_facts hs
      have HE : Hid (s = numS n ∧ wr = w) := ⟨HR.out.2.fin hs, HR.out.1⟩
      clear hc HR
      go_wp2
      go_ret
      rw [← HE.out.1, HE.out.2]
      exact ⟨rfl, rfl⟩
end Go.Proofs.YtkipnkpnkhfjhabGreatDoor

/- LbFc -/
namespace Go.Proofs.YtkipnkpnkhfjhabGreatDoor
open Go.RowKit

structure RefP (w : World) (S : Nat → Prop) (gr : Nat) (v : Value) (rs : List IdR) (last : Nat) : Prop where
  box : w.heap[gr]? = some (.cells #[v, .int .i64 0] 28)
  row : w.ownsRow 0 41 2 v rs.length (idf rs)
  inB : S gr
  inR : ∀ k, v.ownBlock = some k → S k
  each : ∀ r ∈ rs, Rl w S r.val r.lbs
  rise : rs.Pairwise (fun a b => a.num < b.num)
  upto : ∀ r ∈ rs, 0 < r.num ∧ r.num ≤ last
  most : rs.length ≤ 1000

theorem RefP.ne_row {w : World} {S : Nat → Prop} {gr last : Nat} {v : Value} {rs : List IdR} (h : RefP w S gr v rs last) : v.ownBlock ≠ some gr := by
  intro e
  obtain ⟨cur, hc⟩ := row_objE h.row e
  rw [h.box] at hc
  simp at hc
theorem RefP.ne_val {w : World} {S : Nat → Prop} {gr last : Nat} {v : Value} {rs : List IdR} (h : RefP w S gr v rs last) {r : IdR} (hr : r ∈ rs) : r.val.ownBlock ≠ some gr ∧ ∀ k, v.ownBlock = some k → r.val.ownBlock ≠ some k := by
  refine ⟨fun e => ?_, fun k hk e => ?_⟩
  · obtain ⟨-, cur, fr, hc⟩ := (h.each r hr).2 gr e
    rw [h.box] at hc
    simp at hc
  · obtain ⟨-, cur, fr, hc⟩ := (h.each r hr).2 k e
    obtain ⟨cur', hc'⟩ := row_objE h.row hk
    rw [hc'] at hc
    simp at hc
theorem RefP.frame {w w' : World} {S T : Nat → Prop} {gr last : Nat} {v : Value} {rs : List IdR} (h : RefP w S gr v rs last) (hc : Ch w w' T) (hT : ∀ k, k < w.heap.size → S k → ¬ T k) : RefP w' S gr v rs last :=
  { h with
    box := by rw [hc.block (some_lt h.box) (hT _ (some_lt h.box) h.inB)]; exact h.box
    row := row_via h.row (fun k hk => hc.block ((h.row.lt k hk).2) (hT _ ((h.row.lt k hk).2) (h.inR k hk)))
    each := fun r hr => (h.each r hr).frame hc hT }
theorem RefP.keep {w w' : World} {S : Nat → Prop} {gr last : Nat} {v : Value} {rs : List IdR} (h : RefP w S gr v rs last) (hg : w.grownBy w' none) : RefP w' S gr v rs last :=
  h.frame (T := fun _ => False) (Ch.of_gb hg (fun k hk => by cases hk)) (fun _ _ _ => id)
/-- its last number is told -/
theorem RefP.fin {w : World} {S : Nat → Prop} {gr last : Nat} {v : Value} {rs : List IdR} (h : RefP w S gr v rs last) : RefI (w.setCell ⟨gr, 1, none⟩ (.int .i64 (last : Int))) S gr v rs last ∧ Ch w (w.setCell ⟨gr, 1, none⟩ (.int .i64 (last : Int))) S := by
  have hch : Ch w (w.setCell ⟨gr, 1, none⟩ (.int .i64 (last : Int))) (fun k => k = gr) := Ch.of_gb (gb_setI w gr 1 _) (fun k hk _ => by cases hk; rfl)
  have hne := h.ne_row
  refine ⟨⟨?_, row_via h.row (fun k hk => hch.block ((h.row.lt k hk).2) (fun e => hne (by rw [hk, e]))), h.inB, h.inR, fun r hr => ?_, h.rise, h.upto, h.most⟩, hch.mono (fun k _ hk => by rw [hk]; exact h.inB)⟩
  · have := heap_setCell_same w gr 1 _ _ (.int .i64 (last : Int)) h.box
    rw [this]
    rfl
  · have hRl := h.each r hr
    have hnv := h.ne_val hr
    have hno : ∀ k, r.val.ownBlock = some k → ¬ k = gr := fun k hk e => hnv.1 (by rw [hk, e])
    refine ⟨hRl.1.ch hch (fun k hk _ => hno k hk), fun k hk => ?_⟩
    obtain ⟨h1, cur, fr, h2⟩ := hRl.2 k hk
    exact ⟨h1, cur, fr, by rw [hch.block (some_lt h2) (hno k hk)]; exact h2⟩
/-- a set more -/
theorem RefP.app {w w3 w5 : World} {S : Nat → Prop} {gr last : Nat} {v own v5 : Value} {rs : List IdR} {ls : List LbT} (HW : RefP w S gr v rs last) (hg3 : w.grownBy w3 none) (hown : OwnL w3 w.heap.size own ls) (hlt : rs.length < 1000)
    {w4 : World} (hg4 : w3.grownBy w4 none) (ho5 : w5.ownsRow 0 41 2 v5 (rs.length + 1) (idf rs ++ [.int .i64 ((last + 1 : Nat) : Int), own])) (hf5 : Fr w4 w5 v v5) :
    RefP (w5.setCell ⟨gr, 0, none⟩ v5) (Gr S w (w5.setCell ⟨gr, 0, none⟩ v5)) gr v5 (rs ++ [⟨last + 1, own, ls⟩]) (last + 1) ∧ Ch w (w5.setCell ⟨gr, 0, none⟩ v5) S := by
  have hgr : gr < w.heap.size := some_lt HW.box
  have hvl : ∀ k, v.ownBlock = some k → k < w.heap.size := fun k hk => (HW.row.lt k hk).2
  have hs3 := hg3.size
  have hs5 := hf5.1.size
  have hs4 := hg4.size
  have b4 : ∀ k, k < w3.heap.size → v.ownBlock ≠ some k → w5.heap[k]? = w3.heap[k]? := fun k hk h2 => by
    rw [hf5.1.block k (by omega) (fun e => h2 e.symm)]
    exact hg4.block k hk (by simp)
  have b6 : ∀ k, k < w3.heap.size → k ≠ gr → v.ownBlock ≠ some k → (w5.setCell ⟨gr, 0, none⟩ v5).heap[k]? = w3.heap[k]? := fun k hk h1 h2 => (Below.heap_setCell _ _ _ _ h1).trans (b4 k hk h2)
  have hch : Ch w (w5.setCell ⟨gr, 0, none⟩ v5) (fun k => k = gr ∨ v.ownBlock = some k) := by
    refine ⟨?_, ?_, ?_, ?_, fun k hk hn => ?_⟩
    · exact hf5.1.os.trans (hg4.os.trans hg3.os)
    · exact hf5.1.tape.trans (hg4.tape.trans hg3.tape)
    · exact hf5.1.output.trans (hg4.output.trans hg3.output)
    · simp; omega
    · rw [b6 k (by omega) (fun e => hn (.inl e)) (fun e => hn (.inr e))]
      exact hg3.block k hk (by simp)
  have hbox5 : w5.heap[gr]? = some (.cells #[v, .int .i64 0] 28) := by
    rw [b4 gr (by omega) HW.ne_row]
    exact (hg3.block gr hgr (by simp)).trans HW.box
  have hv5 : ∀ k, v5.ownBlock = some k → k ≠ gr := fun k hk e => by
    rcases hf5.2 k hk with h | h
    · exact HW.ne_row (by rw [← h, e])
    · omega
  refine ⟨⟨?_, ?_, .inl HW.inB, ?_, ?_, ?_, ?_, ?_⟩, hch.mono (fun k _ hk => ?_)⟩
  · have := heap_setCell_same w5 gr 0 _ _ v5 hbox5
    rw [this]
    rfl
  · rw [List.length_append, idf_append]
    exact row_via ho5 (fun k hk => Below.heap_setCell _ _ _ _ (hv5 k hk))
  · intro k hk
    rcases hf5.2 k hk with h | h
    · exact .inl (HW.inR k h.symm)
    · right
      have := (ho5.lt k hk).2
      exact ⟨by omega, by simpa using this⟩
  · intro r hr
    rcases List.mem_append.1 hr with hr | hr
    · have hRl := HW.each r hr
      have hnv := HW.ne_val hr
      have hno : ∀ k, r.val.ownBlock = some k → ¬ (k = gr ∨ v.ownBlock = some k) := fun k hk h => by
        rcases h with h | h
        · exact hnv.1 (by rw [hk, h])
        · exact hnv.2 k h hk
      refine ⟨hRl.1.ch hch (fun k hk _ => hno k hk), fun k hk => ?_⟩
      obtain ⟨h1, cur, fr, h2⟩ := hRl.2 k hk
      exact ⟨.inl h1, cur, fr, by rw [hch.block (some_lt h2) (hno k hk)]; exact h2⟩
    · simp only [List.mem_cons, List.not_mem_nil, or_false] at hr
      subst hr
      have hlt' := hown.lt
      have hk6 : ∀ k, own.ownBlock = some k → (w5.setCell ⟨gr, 0, none⟩ v5).heap[k]? = w3.heap[k]? := fun k hk => by
        have := hlt' k hk
        exact b6 k this.2 (by omega) (fun e => by have := hvl k e; omega)
      refine ⟨hown.rd.via (fun k hk _ => hk6 k hk), fun k hk => ?_⟩
      have := hlt' k hk
      obtain ⟨cur, hc⟩ := row_objE hown hk
      exact ⟨.inr ⟨this.1, by simp; omega⟩, cur, _, by rw [hk6 k hk]; exact hc⟩
  · refine List.pairwise_append.2 ⟨HW.rise, List.pairwise_singleton _ _, fun p hp q hq => ?_⟩
    simp only [List.mem_cons, List.not_mem_nil, or_false] at hq
    subst hq
    have := (HW.upto p hp).2
    show p.num < last + 1
    omega
  · intro r hr
    rcases List.mem_append.1 hr with hr | hr
    · have := HW.upto r hr
      exact ⟨this.1, by omega⟩
    · simp only [List.mem_cons, List.not_mem_nil, or_false] at hr
      subst hr
      exact ⟨by show 0 < last + 1; omega, Nat.le_refl _⟩
  · rw [List.length_append]
    simp
    omega
  · rcases hk with rfl | hk
    · exact HW.inB
    · exact HW.inR k hk
end Go.Proofs.YtkipnkpnkhfjhabGreatDoor

/- LbFd -/
namespace Go.Proofs.YtkipnkpnkhfjhabGreatDoor
open Go.RowKit

theorem putI_new {rs : List IdR} {last : Nat} {own : Value} {ls : List LbT} (h1 : (rightS ls).1 = 0) (h2 : numI rs ls = (0, false)) (h3 : rs.length < 1000) : putI rs last own ls = (((last + 1 : Nat) : Int), 0, rs ++ [⟨last + 1, own, ls⟩], last + 1) := by
  unfold putI
  rw [if_neg (by simpa using h1), h2, if_neg (by simp), if_neg (by omega)]
/-- both numberings with i sets -/
structure DuoF (w0 w : World) (S T : Nat → Prop) (gx gr i : Nat) (rs qs : List IdR) : Prop where
  gb : w0.grownBy w none
  prj : PrjOK w S gx rs i
  ref : ∃ v, RefP w T gr v qs i
  agr : Agr rs qs
  few : Few rs
  apart : ∀ k, S k → ¬ T k
  inS : ∀ k, S k → w0.heap.size ≤ k ∧ k < w.heap.size
  inT : ∀ k, T k → w0.heap.size ≤ k ∧ k < w.heap.size
  len : rs.length = i
  nums : ∀ r ∈ rs, ∃ j, j < i ∧ r.lbs = numL j
theorem DuoF.keep {w0 w w1 : World} {S T : Nat → Prop} {gx gr i : Nat} {rs qs : List IdR} (h : DuoF w0 w S T gx gr i rs qs) (hg : w.grownBy w1 none) : DuoF w0 w1 S T gx gr i rs qs := by
  obtain ⟨gs, gh, Ds, Dh, hv, hp⟩ := h.prj
  obtain ⟨v, hr⟩ := h.ref
  have := hg.size
  exact ⟨gb_none h.gb hg, ⟨gs, gh, Ds, Dh, hv, hp.keep hg⟩, ⟨v, hr.keep hg⟩, h.agr, h.few, h.apart, (fun k hk => ⟨(h.inS k hk).1, by have := (h.inS k hk).2; omega⟩), (fun k hk => ⟨(h.inT k hk).1, by have := (h.inT k hk).2; omega⟩), h.len, h.nums⟩
theorem DuoF.new {w0 w : World} {S T : Nat → Prop} {gx gr i : Nat} {rs qs : List IdR} (h : DuoF w0 w S T gx gr i rs qs) (hi : i < 1000) (own : Value) : putI rs i own (numL i) = (((i + 1 : Nat) : Int), 0, rs ++ [⟨i + 1, own, numL i⟩], i + 1) := by
  refine putI_new (numL_right hi) (numI_none (fun q hq e => ?_)) (by rw [h.len]; exact hi)
  obtain ⟨j, hj, e2⟩ := h.nums q hq
  rw [e2] at e
  have := numL_inj e
  omega
theorem DuoF.refAt {w0 w w1 : World} {S T : Nat → Prop} {gx gr i : Nat} {rs qs : List IdR} (h : DuoF w0 w S T gx gr i rs qs) (hc : Ch w w1 S) : ∃ v, RefP w1 T gr v qs i := by
  obtain ⟨v, hr⟩ := h.ref
  exact ⟨v, hr.frame hc (fun k _ hk e => h.apart k e hk)⟩
theorem DuoF.two {w0 w w1 w2 : World} {S T : Nat → Prop} {gx gr i : Nat} {rs qs : List IdR} {o1 o2 : Value} (h : DuoF w0 w S T gx gr i rs qs) (hp : PrjOK w1 (Gr S w w1) gx (rs ++ [⟨i + 1, o1, numL i⟩]) (i + 1)) (hc1 : Ch w w1 S) (hr : ∃ v', RefP w2 (Gr T w1 w2) gr v' (qs ++ [⟨i + 1, o2, numL i⟩]) (i + 1)) (hc2 : Ch w1 w2 T) : DuoF w0 w2 (Gr S w w1) (Gr T w1 w2) gx gr (i + 1) (rs ++ [⟨i + 1, o1, numL i⟩]) (qs ++ [⟨i + 1, o2, numL i⟩]) := by
  obtain ⟨gs, gh, Ds, Dh, hv, hp⟩ := hp
  have z0 := h.gb.size
  have z1 := hc1.size
  have z2 := hc2.size
  refine ⟨gb_ch (gb_ch h.gb hc1 (fun k hk => (h.inS k hk).1)) hc2 (fun k hk => (h.inT k hk).1), ⟨gs, gh, Ds, Dh, hv, hp.frame hc2 (fun k _ hk e => ?_)⟩, hr, ?_, ?_, (fun k hk e => ?_), (fun k hk => ?_), (fun k hk => ?_), ?_, ?_⟩
  · rcases hk with hk | hk
    · exact h.apart k hk e
    · have := (h.inT k e).2
      omega
  · have := h.agr
    unfold Agr at *
    rw [List.map_append, List.map_append, this]
    rfl
  · intro q hq
    rcases List.mem_append.1 hq with hq | hq
    · exact h.few q hq
    · simp only [List.mem_cons, List.not_mem_nil, or_false] at hq
      subst hq
      simp [numL]
  · rcases hk with hk | hk
    · rcases e with e | e
      · exact h.apart k hk e
      · have := (h.inS k hk).2
        omega
    · rcases e with e | e
      · have := (h.inT k e).2
        omega
      · omega
  · rcases hk with hk | hk
    · have := h.inS k hk
      exact ⟨this.1, by omega⟩
    · exact ⟨by omega, by omega⟩
  · rcases hk with hk | hk
    · have := h.inT k hk
      exact ⟨this.1, by omega⟩
    · exact ⟨by omega, by omega⟩
  · rw [List.length_append, h.len]
    rfl
  · intro q hq
    rcases List.mem_append.1 hq with hq | hq
    · obtain ⟨j, hj, e⟩ := h.nums q hq
      exact ⟨j, by omega, e⟩
    · simp only [List.mem_cons, List.not_mem_nil, or_false] at hq
      subst hq
      exact ⟨i, by omega, rfl⟩
/-- the last number is told: both are full -/
theorem DuoF.fin {w0 w : World} {S T : Nat → Prop} {gx gr i : Nat} {rs qs : List IdR} (h : DuoF w0 w S T gx gr i rs qs) : Duo w0 (w.setCell ⟨gr, 1, none⟩ (.int .i64 (i : Int))) S T gx gr i rs qs := by
  obtain ⟨gs, gh, Ds, Dh, hv, hp⟩ := h.prj
  obtain ⟨v, hr⟩ := h.ref
  obtain ⟨hf, hc⟩ := hr.fin
  exact ⟨gb_ch h.gb hc (fun k hk => (h.inT k hk).1), ⟨gs, gh, Ds, Dh, hv, hp.frame hc (fun k _ hk e => h.apart k hk e)⟩, ⟨v, hf⟩, h.agr, h.few, h.apart, (fun k hk => ⟨(h.inS k hk).1, by have := (h.inS k hk).2; simpa using this⟩), (fun k hk => ⟨(h.inT k hk).1, by have := (h.inT k hk).2; simpa using this⟩)⟩
theorem duoF_start {w w1 : World} {gx : Nat} (h1 : PrjOK w1 (fun k => w.heap.size ≤ k ∧ k < w1.heap.size) gx [] 0) (hg : w.grownBy w1 none) :
    DuoF w (w1.alloc (.cells #[.slice none 0 0, .int .i64 0] 28)) (fun k => w.heap.size ≤ k ∧ k < w1.heap.size) (fun k => k = w1.heap.size) gx w1.heap.size 0 [] [] := by
  obtain ⟨gs, gh, Ds, Dh, hv, hp⟩ := h1
  have hk := World.grownBy_alloc w1 (.cells #[.slice none 0 0, .int .i64 0] 28) none
  have z := hg.size
  refine ⟨gb_none hg hk, ⟨gs, gh, Ds, Dh, hv, hp.keep hk⟩, ⟨.slice none 0 0, ?_⟩, rfl, (fun r hr => absurd hr (by simp)), (fun k hk e => ?_), (fun k hk => ?_), (fun k hk => ?_), rfl, (fun r hr => absurd hr (by simp))⟩
  · exact ⟨alloc_atI w1 _, World.ownsRow_nil _ _ _ _, rfl, (fun k hk => by simp [Value.ownBlock] at hk), (fun r hr => absurd hr (by simp)), List.Pairwise.nil, (fun r hr => absurd hr (by simp)), by simp⟩
  · have := hk.2
    omega
  · exact ⟨hk.1, by have := hk.2; simp; omega⟩
  · have e : k = w1.heap.size := hk
    exact ⟨by omega, by simp; omega⟩
/-- a number's label set in memory -/
theorem num_own (w : World) (n : Nat) : OwnL (w.alloc (.cells #[.string (ByteArray.mk ⟨[110]⟩), .string (ByteArray.mk ⟨numS n⟩)] 70)) w.heap.size (.slice (some ⟨w.heap.size, 0, none⟩) (numL n).length (numL n).length) (numL n) :=
  copy_own (w := w) (ls := numL n) (alloc_atI w _) (by simp [numL])
end Go.Proofs.YtkipnkpnkhfjhabGreatDoor

/- LbFe -/
namespace Go.Proofs.YtkipnkpnkhfjhabGreatDoor
open Go.RowKit

theorem step_num {w : World} {ops : Array Oper} {o : Oper} {a : Act} {K : Act → World → Prop} {Q : Exit → Act → World → Prop} {E : Prop} {R : Ending → World → Prop} (hgd : o.guard = none) (x : Operand)
    (ho : o.op = .call { callee := .value (.func 11), args := #[x], argTypes := #[3] }) (u : Value) (hx : a.eval x = u) (hc : Calls Tryz.prog 11 #[u] w R)
    (hR : ∀ e w', R e w' → ∃ v, e = .returned v ∧ K (a.put o.dst v) w') :
    if Region.wanted o (yielded ops a.tmps) = true then Oper.wp Tryz.prog o a w K Q else E := by
  have hw : Region.wanted o (yielded ops a.tmps) = true := by simp [Region.wanted, hgd]
  rw [if_pos hw]
  have hen : ∀ args w, (callFunc 11 args).run Tryz.prog w = .ok (.enter 11 args) w := enters_of Tryz.func11 (by kernel_rfl) rfl
  have key : (execOp a.eval o).run Tryz.prog w = .ok (.enter 11 #[u]) w := by
    have hf : a.eval (.func 11) = .func (.func 11) #[] #[] := rfl
    unfold execOp
    simp [ho, resolve, invoke, hx, hen, hf, Deferred.ofValue]
  unfold Oper.wp
  rw [key, Oper.upon_enter]
  refine hc.mono fun e w' h => ?_
  obtain ⟨v, rfl, hk⟩ := hR e w' h
  exact hk
end Go.Proofs.YtkipnkpnkhfjhabGreatDoor
