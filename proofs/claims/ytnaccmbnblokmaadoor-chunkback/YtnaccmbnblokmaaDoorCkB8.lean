/-
  Encode, Decode, Split and Join as the law asks them, each answer in one form.
-/
import Derived.Test.YtnaccmbnblokmaaDoorCkB7
namespace Go.Proofs.YtnaccmbnblokmaaDoor
open Go.RowKit

theorem okL_in {k : List SmpT} (h : okL startP k) : SmIn k := by
  intro x hx
  obtain ⟨l1, l2, rfl⟩ := List.append_of_mem hx
  have h1 := okL_app.1 h
  have := wrongN_ok h1.2.1 (stA_ok startOk h1.1).most
  exact ⟨by omega, h1.2.2.1⟩
theorem RdP.begin {w : World} {a : Option Addr} {c : Nat} {l : List SmpT} (h : RdP w (.slice a l.length c) l) (n : Nat) (hn : n ≤ l.length) : RdP w (.slice a n c) (l.take n) := by
  obtain ⟨a', c', e, h1, h2, h3⟩ := h
  simp only [Value.slice.injEq, true_and] at e
  obtain ⟨rfl, rfl⟩ := e
  have hl : (l.take n).length = n := by rw [List.length_take]; omega
  refine ⟨a, c, by rw [hl], by omega, h2, fun j hj => ?_⟩
  rw [hl] at hj
  obtain ⟨b, o, q, c0, c1⟩ := h3 j (by omega)
  rw [getD_take hj]
  exact ⟨b, o, q, c0, c1⟩
/-- what Encode answers: bytes X and an error z -/
def EncU (l : List SmpT) (w : World) (x : Value) (z : Int) (X : List UInt8) : Prop := Rd w x X ∧ (z = 0 → okL startP l ∧ X = ckB l) ∧ (okL startP l → z = 0)
theorem EncU.keep {l : List SmpT} {w w' : World} {x : Value} {z : Int} {X : List UInt8} (h : EncU l w x z X) (hg : w.grownBy w' none) : EncU l w' x z X := ⟨h.1.keep hg, h.2⟩
theorem enc_uni (w : World) (v : Value) (l : List SmpT) (hv : RdP w v l) (hl : SmIn l) (hT : Tk w) :
    Calls Tryd.prog 20 #[v] w fun e w' => ∃ x z i X, e = .returned (.tuple #[x, .int .i64 z, .int .i64 i]) ∧ EncU l w' x z X ∧ w.grownBy w' none := by
  refine (ckEncode_any w v l hv hl hT).mono ?_
  rintro e w' ⟨⟨h1, v', rfl, ho⟩ | ⟨z, h1, h2, h3, rfl⟩, hg⟩
  · exact ⟨_, _, _, _, rfl, ⟨ho.rd, fun _ => ⟨h1, rfl⟩, fun _ => rfl⟩, hg⟩
  · refine ⟨_, _, _, [], rfl, ⟨Rd.nil _, fun h => absurd h h3, fun h => ?_⟩, hg⟩
    exfalso
    apply h3
    rw [← List.take_append_drop z l, okL_app] at h
    have hd : l.drop z = l.getD z smZ :: l.drop (z + 1) := by rw [List.drop_eq_getElem_cons h1]; simp [h1]
    rw [hd] at h
    exact h.2.1
/-- what Decode answers: samples k and an error z -/
def DecU (b : List UInt8) (w : World) (x : Value) (z : Int) (k : List SmpT) : Prop := z = 0 → okL startP k ∧ b = ckB k ∧ RdP w x k
theorem dec_uni (w : World) (v : Value) (b : List UInt8) (hv : Rd w v b) (hb : b.length < 281474976710656) (hT : Tk w) :
    Calls Tryd.prog 23 #[v] w fun e w' => ∃ x z k, e = .returned (.tuple #[x, .int .i64 z]) ∧ DecU b w' x z k ∧ w.grownBy w' none := by
  refine (decode_two w v b hv hb hT).mono ?_
  rintro e w' ⟨⟨l, v', rfl, h1, h2, h3⟩ | ⟨rfl, h⟩, hg⟩
  · exact ⟨_, _, l, rfl, fun _ => ⟨h1, h2, h3⟩, hg⟩
  · exact ⟨_, _, [], rfl, fun h => absurd h (by omega), hg⟩
end Go.Proofs.YtnaccmbnblokmaaDoor
