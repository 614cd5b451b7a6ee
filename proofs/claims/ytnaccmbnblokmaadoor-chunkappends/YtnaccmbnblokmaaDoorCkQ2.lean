/-
  A chunk's reader: what number, time and gap come to: the walks.
-/
import Derived.Test.YtnaccmbnblokmaaDoorCkQ
namespace Go.Proofs.YtnaccmbnblokmaaDoor
open Go.RowKit
variable {B : Nat}

/-- what a reading of a kind comes to: there, or a fault -/
def Rdg {α : Type} (o : Option (α × Nat)) (fl : Bool) (x : α) (p' : Nat) (fl' : Bool) : Prop := (o = some (x, p') ∧ fl' = fl) ∨ (o = none ∧ fl' = true)
def lenV : Value → Nat
  | .slice _ n _ => n
  | _ => 0
theorem numO_some {L : List UInt8} {s k p x p1 : Nat} (h : tkO L s p 8 = some (x, p1)) (hx : ¬ x < 128) : numO L s (k + 1) p = match numO L s k p1 with | none => none | some (bs, p2) => some (UInt8.ofNat x :: bs, p2) := by
  rw [numO, h]
  simp only [if_neg hx]
  cases numO L s k p1 <;> rfl
theorem numO_last {L : List UInt8} {s k p x p1 : Nat} (h : tkO L s p 8 = some (x, p1)) (hx : x < 128) : numO L s (k + 1) p = some ([UInt8.ofNat x], p1) := by
  rw [numO, h]
  simp only [if_pos hx]
theorem numO_none {L : List UInt8} {s k p : Nat} (h : tkO L s p 8 = none) : numO L s (k + 1) p = none := by
  rw [numO, h]
/-- bytes ahead of a number's rest -/
def NumI (L : List UInt8) (s p : Nat) (bs : List UInt8) (q : Nat) : Prop := q = p + 8 * bs.length ∧ bs.length ≤ s / 8 ∧ numO L s (s / 8 + 1) p = match numO L s (s / 8 + 1 - bs.length) q with | none => none | some (r, p2) => some (bs ++ r, p2)
theorem NumI.start (L : List UInt8) (s p : Nat) : NumI L s p [] p := ⟨by simp, by simp, by
  simp only [List.length_nil, Nat.sub_zero, List.nil_append]
  cases numO L s (s / 8 + 1) p with
  | none => rfl
  | some r => rfl⟩
theorem NumI.step {L : List UInt8} {s p q x p1 : Nat} {bs : List UInt8} (h : NumI L s p bs q) (ht : tkO L s q 8 = some (x, p1)) (hx : ¬ x < 128) : NumI L s p (bs ++ [UInt8.ofNat x]) p1 := by
  obtain ⟨h1, h2, h3⟩ := h
  have hp := tkO_lt ht
  refine ⟨by rw [List.length_append]; simp; omega, by rw [List.length_append]; simp; omega, ?_⟩
  rw [h3]
  obtain ⟨k, hk⟩ : ∃ k, s / 8 + 1 - bs.length = k + 1 := ⟨s / 8 - bs.length, by omega⟩
  have hk2 : s / 8 + 1 - (bs ++ [UInt8.ofNat x]).length = k := by rw [List.length_append]; simp; omega
  rw [hk, hk2, numO_some ht hx]
  cases numO L s k p1 with
  | none => rfl
  | some r => simp
theorem NumI.last {L : List UInt8} {s p q x p1 : Nat} {bs : List UInt8} (h : NumI L s p bs q) (ht : tkO L s q 8 = some (x, p1)) (hx : x < 128) : numO L s (s / 8 + 1) p = some (bs ++ [UInt8.ofNat x], p1) := by
  obtain ⟨h1, h2, h3⟩ := h
  obtain ⟨k, hk⟩ : ∃ k, s / 8 + 1 - bs.length = k + 1 := ⟨s / 8 - bs.length, by omega⟩
  rw [h3, hk, numO_last ht hx]
theorem NumI.none {L : List UInt8} {s p q : Nat} {bs : List UInt8} (h : NumI L s p bs q) (ht : tkO L s q 8 = none) : numO L s (s / 8 + 1) p = .none := by
  obtain ⟨h1, h2, h3⟩ := h
  obtain ⟨k, hk⟩ : ∃ k, s / 8 + 1 - bs.length = k + 1 := ⟨s / 8 - bs.length, by omega⟩
  rw [h3, hk, numO_none ht]
theorem RC.room {w0 w : World} {gR p s : Nat} {ptr : Value} {R : Rst} {fl : Bool} {L : List UInt8} (h : RC B w0 w gR ptr R fl L p s) : s ≤ 8388608 := by
  rcases h.strm with ⟨gB, _, h1⟩ | ⟨_, h1, _⟩
  · exact h1.most
  · omega

set_option maxRecDepth 8000 in
set_option maxHeartbeats 3200000 in
theorem number_any (w0 w : World) (gR p s : Nat) (ptr : Value) (R : Rst) (fl : Bool) (L : List UInt8) (h : RC B w0 w gR ptr R fl L p s) (hB : B ≤ w.heap.size) :
    Calls Tryd.prog 100 #[.pointer (some ⟨gR, 0, none⟩)] w fun e w' => ∃ (v : Value) (bs : List UInt8) (p' : Nat) (fl' : Bool), e = .returned v ∧ Own w' w.heap.size v bs ∧ RC B w0 w' gR ptr R fl' L p' s ∧ Rdg (numO L s (s / 8 + 1) p) fl bs p' fl' ∧ Ch w w' (RSt gR ptr) := by
  have HR := hidJ h
  have hs := h.room
  clear h
  go_enter Tryd.func100, Tryd.ntmps100
  go_wp2
  go_loopw [3] (fun i wr => ∃ n, lenV i = n ∧ n ≤ 1048577 ∧ Hid (∃ bs q, bs.length = n ∧ Own wr w.heap.size i bs ∧ RC B w0 wr gR ptr R fl L q s ∧ NumI L s p bs q ∧ Ch w wr (RSt gR ptr))) (fun i _ => 1048600 - lenV i)
  case atStart => exact ⟨0, rfl, by omega, [], p, rfl, Own.nil _ _, HR.out, NumI.start _ _ _, Ch.refl _ _⟩
  case round =>
    obtain ⟨n, hn, hn2, hr⟩ := hrel
    have hsh : ∃ a c, u3 = .slice a n c := by
      obtain ⟨bs, q, h1, h2, -⟩ := hr.out
      obtain ⟨a, c, h3⟩ := h2.shape
      exact ⟨a, c, by rw [← h1]; exact h3⟩
    obtain ⟨a, c, rfl⟩ := hsh
    have HT : Hid (Calls Tryd.prog 89 #[.pointer (some ⟨gR, 0, none⟩), .int .i64 8] wr fun e w' => ∃ (x : Nat), e = .returned (.int .u64 (x : Int)) ∧ x < 256 ∧ Hid (∃ bs q p' fl', bs.length = n ∧ Own w' w.heap.size (.slice a n c) bs ∧ RC B w0 w' gR ptr R fl' L p' s ∧ NumI L s p bs q ∧ Tkn L s q 8 fl x p' fl' ∧ Ch w w' (RSt gR ptr) ∧ w.heap.size ≤ w'.heap.size)) := by
      obtain ⟨bs, q, h1, h2, h3, h4, h5⟩ := hr.out
      refine (take_any w0 wr gR q s 8 ptr R fl L h3 (by omega) (.inr (.inl (by omega)))).mono ?_
      rintro e w' ⟨x, p', fl', q1, q2, q3, q4⟩
      have hlt := q3.lt
      refine ⟨x, q1, by simpa using hlt, bs, q, p', fl', h1, ?_, q2, h4, q3, h5.trans q4 (fun _ _ e => e), Nat.le_trans h5.size q4.size⟩
      refine ⟨h2.1, ?_⟩
      rcases h2.2 with e0 | ⟨b, cap, cur, e1, e2, e3, e4⟩
      · exact .inl e0
      · have hb : b < wr.heap.size := (Array.getElem?_eq_some_iff.1 e3).1
        refine .inr ⟨b, cap, cur, e1, e2, (q4.block hb (fun e => ?_)).trans e3, e4⟩
        have := (h3.blocks b e).2
        omega
    clear hr hn
    go_wp2_with fail
    refine HT.out.mono ?_
    rintro e w1 ⟨x, rfl, hx, H1⟩
    have hx8 : (x : Int) % 256 = ((UInt8.ofNat x).toNat : Int) := by rw [UInt8.toNat_ofNat']; omega
    have hbt : (UInt8.ofNat x).toNat = x := by rw [UInt8.toNat_ofNat']; omega
    have HX := hidJ (And.intro hx hbt)
    clear HT hx hbt
    obtain ⟨bs, q, p', fl', h1, h2, h3, h4, h5, h6, h7⟩ := H1.out
    have HO := hidJ (And.intro h2 h1)
    have HF : Hid (∀ C v' w', Fr (w1.alloc C) w' (.slice a n c) v' → RC B w0 w' gR ptr R fl' L p' s ∧ Ch w w' (RSt gR ptr)) := by
      intro C v' w' hf
      have hb : ∀ k, (Value.slice a n c).ownBlock = some k → w.heap.size ≤ k := fun k hk => (h2.lt k hk).1
      refine ⟨(h3.keep (alloc_gb _ _)).far hf.1 (fun k hk => Nat.le_trans hB (hb k hk)), ?_⟩
      refine Ch.trans (h6.trans (Ch.of_gb (S := RSt gR ptr) (alloc_gb _ _) (fun k hk => by cases hk)) (fun _ _ e => e)) (Ch.of_gb (S := fun k => w.heap.size ≤ k) hf.1 (fun k hk _ => hb k hk)) (fun k hk e => ?_)
      have : w.heap.size ≤ k := e
      omega
    have HN := hidJ (And.intro h4 h5)
    have hol : bs.length = n := h1
    have hws := h7
    clear H1 h1 h2 h3 h4 h5 h6 h7
    by_cases hlt : x < 128
    · have hbi : ((UInt8.ofNat x).toNat : Int) < 128 := by rw [HX.out.2]; omega
      have HE : Hid (Rdg (numO L s (s / 8 + 1) p) fl (bs ++ [UInt8.ofNat x]) p' fl') := by
        rcases HN.out.2 with ⟨e1, e2⟩ | ⟨e1, -, -, e2⟩
        · exact .inl ⟨HN.out.1.last e1 hlt, e2⟩
        · exact .inr ⟨HN.out.1.none e1, e2⟩
      clear hlt
      generalize UInt8.ofNat x = b1 at *
      go_wp2_with (at_builtin; refine wp_app rfl _ _ rfl w.heap.size _ _ bs [b1] rfl rfl (HO.out.1.keep (alloc_gb _ _)) rd_one ?c1 ?c2 ?_)
      case c1 => first | omega | (simp; omega)
      case c2 => first | omega | (simp; omega)
      intro v' w2 ho' hf'
      have H2 := hidJ (And.intro ho' (HF.out _ _ _ hf'))
      clear ho' hf' HF HO
      go_wp2
      go_ret
      exact ⟨_, _, _, _, rfl, H2.out.1, H2.out.2.1, HE.out, H2.out.2.2⟩
    · have hbi : ¬ ((UInt8.ofNat x).toNat : Int) < 128 := by rw [HX.out.2]; omega
      have HE : Hid (NumI L s p (bs ++ [UInt8.ofNat x]) p' ∧ fl' = fl ∧ (bs ++ [UInt8.ofNat x]).length ≤ s / 8) := by
        rcases HN.out.2 with ⟨e1, e2⟩ | ⟨-, e1, -⟩
        · have := HN.out.1.step e1 hlt
          exact ⟨this, e2, this.2.1⟩
        · omega
      clear hlt
      generalize UInt8.ofNat x = b1 at *
      go_wp2_with (at_builtin; refine wp_app rfl _ _ rfl w.heap.size _ _ bs [b1] rfl rfl (HO.out.1.keep (alloc_gb _ _)) rd_one ?c3 ?c4 ?_)
      case c3 => first | omega | (simp; omega)
      case c4 => first | omega | (simp; omega)
      intro v' w2 ho' hf'
      have hlv : lenV v' = n + 1 := by
        obtain ⟨a', c', e⟩ := ho'.shape
        rw [e]
        show (bs ++ [b1]).length = n + 1
        rw [List.length_append, hol]
        rfl
      have hF := HF.out _ _ _ hf'
      rw [HE.out.2.1] at hF
      have H2 : Hid (∃ bs q, bs.length = n + 1 ∧ Own w2 w.heap.size v' bs ∧ RC B w0 w2 gR ptr R fl L q s ∧ NumI L s p bs q ∧ Ch w w2 (RSt gR ptr)) := ⟨bs ++ [b1], p', by rw [List.length_append, hol]; rfl, ho', hF.1, HE.out.1, hF.2⟩
      have hn3 : n + 1 ≤ 1048577 := by
        have := HE.out.2.2
        rw [List.length_append, hol] at this
        simp at this
        omega
      have HL := hidJ hlv
      clear ho' hf' HF HO hF HE hlv
      go_wp2
      go_roundw
      case rel => exact ⟨n + 1, HL.out, hn3, H2⟩
      case measure => rw [HL.out]; show 1048600 - (n + 1) < 1048600 - n; omega
end Go.Proofs.YtnaccmbnblokmaaDoor
