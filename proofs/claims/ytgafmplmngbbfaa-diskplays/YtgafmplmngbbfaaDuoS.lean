/-
  A disk and the document's one beside it, apart from one another; the document's Count.
-/
import Derived.Test.YtgafmplmngbbfaaRefA
namespace Go.Proofs.Ytgafmplmngbbfaa
open Go.RowKit Go.Maps Go.WideMaps

theorem count_any (z : Int) (m : Nat) (M : Int) (hM : M = (m : Int)) (w : World) (h0 : 0 < m) (h1 : m ≤ 1099511627776) :
    Calls Try.prog 25 #[.int .i64 z, .int .i64 M] w fun e w' => e = .returned (.int .i64 (((z % (m : Int)).toNat : Nat) : Int)) ∧ w' = w := by
  subst hM
  have hp : (0 : Int) < (m : Int) := by omega
  have hmod := Int.emod_nonneg z (b := (m : Int)) (by omega)
  have hmlt := Int.emod_lt_of_pos z hp
  have HM : Hid ((((z % (m : Int)).toNat : Nat) : Int) = z % (m : Int)) := Int.toNat_of_nonneg hmod
  have hne : ((m : Int) == 0) = false := by simp; omega
  have hne2 : ¬ (m : Int) = 0 := by omega
  have hm1 : (m : Int) ≤ 1099511627776 := by omega
  have hb1 := Int.tmod_lt_of_pos z hp
  have hb2 : -(m : Int) < z.tmod (m : Int) := by
    have := Int.lt_tmod_of_pos z hp
    omega
  by_cases hneg : z.tmod (m : Int) < 0
  · have HE : Hid (z.tmod (m : Int) + (m : Int) = z % (m : Int)) := by
      show z.tmod (m : Int) + (m : Int) = z % (m : Int)
      rw [Int.tmod_eq_emod] at hneg ⊢
      split at hneg <;> split <;> first | omega | (simp at *; omega)
    rw [HM.out]
    clear HM hmod h0 h1 hmlt
    go_enter Try.func25, Try.ntmps25
    go_wp2
    go_ret
    exact ⟨ret_int HE.out, rfl⟩
  · have HE : Hid (z.tmod (m : Int) = z % (m : Int)) := by
      show z.tmod (m : Int) = z % (m : Int)
      rw [Int.tmod_eq_emod] at hneg ⊢
      split at hneg <;> split <;> first | omega | (simp at *; omega)
    rw [HM.out]
    clear HM hmod h0 h1 hmlt
    go_enter Try.func25, Try.ntmps25
    go_wp2
    go_ret
    exact ⟨ret_int HE.out, rfl⟩

/-- a disk of the program's and one of the document's, apart from each other, all from a world on -/
structure DuoW (w wr : World) (Sd Sr : Nat → Prop) (gd gr : Nat) (Md : Fls) (Nd : Nat) (Mr : Fls) (Nr : Nat) : Prop where
  d : DiskOK wr Sd gd Md Nd
  r : RefOK wr Sr gr Mr Nr
  g : w.grownBy wr none
  bd : ∀ k, Sd k → w.heap.size ≤ k ∧ k < wr.heap.size ∧ ¬ Sr k
  br : ∀ k, Sr k → w.heap.size ≤ k ∧ k < wr.heap.size
def Duo (w wr : World) (gd gr : Nat) (M : Fls) (N : Nat) : Prop := ∃ Sd Sr, DuoW w wr Sd Sr gd gr M N M N
theorem DuoW.keep {w wr wr' : World} {Sd Sr : Nat → Prop} {gd gr : Nat} {Md Mr : Fls} {Nd Nr : Nat} (h : DuoW w wr Sd Sr gd gr Md Nd Mr Nr) (hg : wr.grownBy wr' none) : DuoW w wr' Sd Sr gd gr Md Nd Mr Nr := by
  have := hg.size
  exact ⟨h.d.keep hg, h.r.keep hg, gb_none h.g hg, fun k hk => ⟨(h.bd k hk).1, by have := (h.bd k hk).2.1; omega, (h.bd k hk).2.2⟩, fun k hk => ⟨(h.br k hk).1, by have := (h.br k hk).2; omega⟩⟩
theorem Duo.keep {w wr wr' : World} {gd gr N : Nat} {M : Fls} (h : Duo w wr gd gr M N) (hg : wr.grownBy wr' none) : Duo w wr' gd gr M N := by
  obtain ⟨Sd, Sr, h⟩ := h
  exact ⟨Sd, Sr, h.keep hg⟩
theorem DuoW.setD {w wr wr' : World} {Sd Sr : Nat → Prop} {gd gr : Nat} {Md Mr Md' : Fls} {Nd Nr Nd' : Nat} (h : DuoW w wr Sd Sr gd gr Md Nd Mr Nr) (hc : Ch wr wr' Sd) (hd : DiskOK wr' (Gr Sd wr wr') gd Md' Nd') : DuoW w wr' (Gr Sd wr wr') Sr gd gr Md' Nd' Mr Nr := by
  have hs := hc.size
  refine ⟨hd, h.r.frame hc (fun k _ hk hk' => (h.bd k hk').2.2 hk), ?_, fun k hk => ?_, fun k hk => ⟨(h.br k hk).1, by have := (h.br k hk).2; omega⟩⟩
  · exact ((Ch.of_gb (S := Sd) h.g (fun k hk => by cases hk)).trans hc (fun _ _ h => h)).gb (fun k hk h' => by have := (h.bd k h').1; omega)
  · have := h.g.size
    rcases hk with hk | ⟨hk1, hk2⟩
    · obtain ⟨a, b, c⟩ := h.bd k hk
      exact ⟨a, by omega, c⟩
    · exact ⟨by omega, hk2, fun h' => by have := (h.br k h').2; omega⟩
theorem DuoW.setR {w wr wr' : World} {Sd Sr : Nat → Prop} {gd gr : Nat} {Md Mr Mr' : Fls} {Nd Nr Nr' : Nat} (h : DuoW w wr Sd Sr gd gr Md Nd Mr Nr) (hc : Ch wr wr' Sr) (hr : RefOK wr' (Gr Sr wr wr') gr Mr' Nr') : DuoW w wr' Sd (Gr Sr wr wr') gd gr Md Nd Mr' Nr' := by
  have hs := hc.size
  refine ⟨h.d.frame hc (fun k _ hk hk' => (h.bd k hk).2.2 hk'), hr, ?_, fun k hk => ?_, fun k hk => ?_⟩
  · exact ((Ch.of_gb (S := Sr) h.g (fun k hk => by cases hk)).trans hc (fun _ _ h => h)).gb (fun k hk h' => by have := (h.br k h').1; omega)
  · obtain ⟨a, b, c⟩ := h.bd k hk
    exact ⟨a, by omega, fun h' => h'.elim c (fun h' => by omega)⟩
  · have := h.g.size
    rcases hk with hk | ⟨hk1, hk2⟩
    · obtain ⟨a, b⟩ := h.br k hk
      exact ⟨a, by omega⟩
    · exact ⟨by omega, hk2⟩
/-- a new one of each -/
theorem Duo.new {w w1 : World} {gd : Nat} (hg : w.grownBy w1 none) (hd : DiskOK w1 (fun k => w.heap.size ≤ k ∧ k < w1.heap.size) gd (fun _ => none) 0) : Duo w (w1.alloc (.cells #[.slice none 0 0] 28)) gd w1.heap.size (fun _ => none) 0 := by
  have hz := hg.size
  refine ⟨_, fun k => k = w1.heap.size, hd.keep (World.grownBy_alloc _ _ none), ⟨.slice none 0 0, [], ⟨alloc_at _ _, World.ownsRow_nil _ _ _ _, rfl, fun k hk => (by simp [Value.ownBlock] at hk), fun r hr => (by cases hr), fun r hr => (by cases hr), List.Pairwise.nil, by simp⟩, fun l => rfl, rfl⟩, gb_none hg (World.grownBy_alloc _ _ none), fun k hk => ⟨hk.1, by simp; omega, fun e => by omega⟩, fun k hk => ⟨by omega, by simp; omega⟩⟩
/-- two bytes as a text -/
theorem conv2 (w : World) (x y : Nat) (hx : x < 256) (hy : y < 256) : (convert 31 9 (.slice (some ⟨w.heap.size, 0, none⟩) 2 2)).run Try.prog (w.alloc (.cells #[.int .u8 (x : Int), .int .u8 (y : Int)] 5)) = .ok (.string (ByteArray.mk ⟨[UInt8.ofNat x, UInt8.ofNat y]⟩)) (w.alloc (.cells #[.int .u8 (x : Int), .int .u8 (y : Int)] 5)) := by
  refine run_str (l := [UInt8.ofNat x, UInt8.ofNat y]) ⟨some ⟨w.heap.size, 0, none⟩, 2, rfl, by simp, by simp [maxLen], fun j hj => ⟨_, _, rfl, ?_⟩, fun h => by cases h⟩
  have ha := alloc_at w (.cells #[.int .u8 (x : Int), .int .u8 (y : Int)] 5)
  have hj2 : j = 0 ∨ j = 1 := by simp at hj; omega
  simp only [World.cell?, ha]
  rcases hj2 with rfl | rfl
  · simp; omega
  · simp; omega
end Go.Proofs.Ytgafmplmngbbfaa
