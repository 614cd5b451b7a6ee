/-
  Tokens in memory; lex.Tokens: the walk.
-/
import Derived.Test.YtifjdfmmafbhkaaGreatDoorLxS
namespace Go.Proofs.YtifjdfmmafbhkaaGreatDoor
open Go.RowKit

/-- tokens as cells -/
def tkf (l : List Tok) : List Value := l.flatMap fun t => [.int .i64 t.1, .string (ByteArray.mk ⟨t.2.1⟩), .int .i64 t.2.2]
theorem tkf_len (l : List Tok) : (tkf l).length = l.length * 3 := by
  induction l with
  | nil => rfl
  | cons t l ih =>
    show (_ :: _ :: _ :: tkf l).length = (l.length + 1) * 3
    simp only [List.length_cons, ih]
    omega
theorem tkf_app (l m : List Tok) : tkf (l ++ m) = tkf l ++ tkf m := List.flatMap_append
/-- a row of tokens of the call's own -/
def OwnT (w : World) (base : Nat) (v : Value) (l : List Tok) : Prop := w.ownsRow base 24 3 v l.length (tkf l)
theorem OwnT.nil (w : World) (base : Nat) : OwnT w base (.slice none 0 0) [] := World.ownsRow_nil w base _ _
theorem OwnT.keep {w w' : World} {base : Nat} {v : Value} {l : List Tok} (h : OwnT w base v l) (hg : w.grownBy w' none) : OwnT w' base v l := by
  refine World.ownsRow.kept h hg ?_
  cases hv : v.ownBlock with
  | none => exact .inl rfl
  | some k => exact .inr (by simp)
theorem OwnT.lt {w : World} {base : Nat} {v : Value} {l : List Tok} (h : OwnT w base v l) : ∀ k, v.ownBlock = some k → base ≤ k ∧ k < w.heap.size := World.ownsRow.lt h
theorem OwnT.shape {w : World} {base : Nat} {v : Value} {l : List Tok} (h : OwnT w base v l) : ∃ a c, v = .slice a l.length c := by
  rcases h.2 with ⟨rfl, hn⟩ | ⟨g, cap, cur, rfl, _⟩
  · exact ⟨none, 0, by rw [hn]⟩
  · exact ⟨_, _, rfl⟩
theorem len_tokens (W : World) (ty : TypeId) (a : Option Addr) (n c : Nat) : (Builtin.len_ #[22] ty #[.slice a n c]).run Tryz.prog W = .ok (.int .i64 (n : Int)) W :=
  run_len_slice W 22 ty a n c (by simp [Program.elem, Tryz.underlying22])
theorem infoT : (Tryz.prog.info? 24).map (fun i => (i.zero, i.size, i.bytes)) = some (some (.agg #[.int .i64 0, .string ⟨#[]⟩, .int .i64 0]), 3, 32) := by kernel_rfl
theorem blk_add {w : World} {b : Nat} {v0 v1 v2 : Value} {t : TypeId} (h : w.heap[b]? = some (.cells #[v0, v1, v2] t (0, 0))) : ∀ j u, [v0, v1, v2][j]? = some u → w.cell? ((⟨b, 0, none⟩ : Addr).add j) = some u := by
  obtain ⟨h0, h1, h2, -⟩ := blk_cells h
  intro j u hj
  match j, hj with
  | 0, hj => simp at hj; subst hj; simpa [Addr.add] using h0
  | 1, hj => simp at hj; subst hj; simpa [Addr.add] using h1
  | 2, hj => simp at hj; subst hj; simpa [Addr.add] using h2
  | (j + 3), hj => simp at hj
/-- one token more behind a row of the call's own -/
theorem wp_appT {w : World} {ops : Array Oper} {rest : List Oper} {o : Oper} {a : Act} {Q : Exit → Act → World → Prop} (hgd : o.guard = none) (s x : Operand)
    (ho : o.op = .call { callee := .builtin .append, args := #[s, x], argTypes := #[22, 22] })
    (base : Nat) (v : Value) (l : List Tok) (t : Tok) (blk : Nat) (hs : a.eval s = v) (hx : a.eval x = .slice (some ⟨blk, 0, none⟩) 1 1) (hown : OwnT w base v l)
    (hb : w.heap[blk]? = some (.cells #[.int .i64 t.1, .string (ByteArray.mk ⟨t.2.1⟩), .int .i64 t.2.2] 24 (0, 0))) (hl : l.length ≤ 1000000000) (hbase : base ≤ w.heap.size)
    (h : ∀ v' w', OwnT w' base v' (l ++ [t]) → w.grownBy w' v.ownBlock → wpList Tryz.prog ops Q rest (a.put o.dst v') w') : wpList Tryz.prog ops Q (o :: rest) a w := by
  obtain ⟨i0, hi, hz0, hz1, hz2⟩ := info_parts infoT
  refine wpList_append_own w hgd s x 22 ho base 24 i0 _ 3 32 Tryz.underlying22 hi hz0 hz1 hz2 rfl (by decide) v l.length (tkf l) hs hown ⟨blk, 0, none⟩ 1 1 [.int .i64 t.1, .string (ByteArray.mk ⟨t.2.1⟩), .int .i64 t.2.2] hx rfl (blk_add hb) ?_ (by unfold maxLen; omega) (by omega) hbase ?_
  · intro u hu
    simp only [List.mem_cons, List.not_mem_nil, or_false] at hu
    rcases hu with rfl | rfl | rfl <;> rfl
  · intro v' w' ho' hg _
    refine h v' w' ?_ hg
    show w'.ownsRow base 24 3 v' (l ++ [t]).length (tkf (l ++ [t]))
    rw [tkf_app, List.length_append]
    exact ho'
theorem tokG_step (f : Nat) (l : LxS) (at' : Nat) (acc : List Tok) (h : l ≠ []) : tokG (f + 1) l at' acc = if (cutW l).2.2 = 0 then (some at', []) else tokG f (l.drop ((cutW l).2.2 + blN false (l.drop (cutW l).2.2))) (at' + ((cutW l).2.2 + blN false (l.drop (cutW l).2.2))) (acc ++ [((cutW l).1, (cutW l).2.1, (at' : Int))]) := by
  rw [tokG, if_neg h]
  rfl
/-- what is answered of the tokens -/
def tkE (T : Option Nat × List Tok) : List Tok × Int × Int := match T with
  | (some p, _) => ([], 130, (p : Int))
  | (none, r) => if 4096 < r.length then ([], 7, 0) else (r, 0, 0)
theorem tokW_eq (l : LxS) : tokW l = if 65536 < l.length then ([], 4, 0) else tkE (tokG (l.length + 1) (l.drop (blN false l)) (blN false l) []) := rfl
set_option maxRecDepth 8000 in
set_option maxHeartbeats 6400000 in
theorem tokens_any (w : World) (l : LxS) (hl : l.length ≤ 140737488351232) (hT : U8S w) (hU : UnT w) :
    Calls Tryz.prog 22 #[.string (ByteArray.mk ⟨l⟩)] w fun e w' => ∃ v, e = .returned (.tuple #[v, .int .i64 (tokW l).2.1, .int .i64 (tokW l).2.2]) ∧ OwnT w' w.heap.size v (tokW l).1 ∧ w.grownBy w' none := by
  have hz : (ByteArray.mk ⟨l⟩).size = l.length := rfl
  have HT := hidJ hT
  have HU := hidJ hU
  have HR := hidJ (tokW_eq l)
  generalize tokW l = R at *
  clear hT hU
  by_cases c1 : 65536 < l.length
  · have ci : (65536 : Int) < (l.length : Int) := by omega
    have hR := HR.out
    rw [if_pos c1] at hR
    subst hR
    go_enter Tryz.func22, Tryz.ntmps22
    go_wp2
    refine bodyPost_ret (v := .tuple #[.slice none 0 0, .int .i64 4, .int .i64 0]) ?_ rfl ?_
    · simp [results, Tryz.f22, go_sem]
    · exact ⟨_, rfl, OwnT.nil _ _, gb_refl _ _⟩
  · have ci : ¬ (65536 : Int) < (l.length : Int) := by omega
    have HR2 := hidJ (HR.out.trans (if_neg c1))
    clear HR
    have HB := hidJ (fun W => blanksWidth_any W l (by omega))
    have hb := blN_le false l
    obtain ⟨T, hT⟩ : ∃ T, T = tokG (l.length + 1) (l.drop (blN false l)) (blN false l) [] := ⟨_, rfl⟩
    rw [← hT] at HR2
    have HTk := hidJ hT.symm
    clear hT
    generalize blN false l = at0 at *
    go_enter Tryz.func22, Tryz.ntmps22
    go_wp2_with fail
    refine (HB.out _).mono ?_
    rintro e w1 ⟨rfl, hg1⟩
    have H1 := hidJ hg1
    clear hg1 HB
    go_wp2
    go_loopg [5, 6] (l.length + 2) (fun gk v5 v6 wr => ∃ (p f : Nat) (acc : List Tok) (v : Value), v5 = v ∧ v6 = .int .i64 (p : Int) ∧ p ≤ l.length ∧ l.length < p + gk ∧ l.length < p + f ∧ acc.length ≤ p ∧ Hid (tokG f (l.drop p) p acc = T ∧ OwnT wr w.heap.size v acc ∧ w.grownBy wr none))
    case atStart => exact ⟨at0, l.length + 1, [], _, rfl, rfl, by omega, by omega, by omega, by simp, HTk.out, OwnT.nil _ _, H1.out⟩
    case round =>
      obtain ⟨p, f, acc, v, rfl, rfl, hp, hg, hf, hac, hr⟩ := hrel
      obtain ⟨f, rfl⟩ : ∃ g, f = g + 1 := ⟨f - 1, by omega⟩
      clear HTk H1
      by_cases hlt : p < l.length
      · obtain ⟨k, rfl⟩ : ∃ k, gk = k + 1 := ⟨gk - 1, by omega⟩
        have hpi : (p : Int) < (l.length : Int) := by omega
        have hne : l.drop p ≠ [] := fun h => by have := congrArg List.length h; rw [List.length_drop] at this; simp only [List.length_nil] at this; omega
        have hlp : (l.drop p).length = l.length - p := List.length_drop
        have hx1 := ext_drop l p
        have HC := hidJ (fun W h1 h2 => cut_any W (l.drop p) (by omega) h1 h2)
        have hst := hidJ (hr.out.1.symm.trans (tokG_step f (l.drop p) p acc hne))
        have hcl := cutW_le (l.drop p)
        have HO := hidJ hr.out.2
        clear hr hne
        have hdd := hidJ (fun n => List.drop_drop (i := n) (j := p) (l := l))
        generalize hcw : cutW (l.drop p) = C at *
        obtain ⟨K, tt, N⟩ := C
        dsimp only [cuV, tkV] at *
        clear hcw
        by_cases z : N = 0
        · subst z
          have hT := hst.out
          rw [if_pos rfl] at hT
          have hR := HR2.out
          rw [hT] at hR
          have hR : R = ([], 130, (p : Int)) := hR
          subst hR
          clear hst hT HR2
          generalize l.drop p = t1 at *
          go_wp2_with fail
          refine (HC.out _ (HT.out.keep HO.out.2) (HU.out.keep HO.out.2)).mono ?_
          rintro e w2 ⟨rfl, hg2⟩
          have H2 := hidJ (gb_none HO.out.2 hg2)
          have H3 := hidJ (gb_none H2.out (World.grownBy_alloc w2 (.cells #[.int .i64 K, .string (ByteArray.mk ⟨tt⟩), .int .i64 0] 24) none))
          clear hg2 HC
          go_wp2
          refine bodyPost_ret (v := .tuple #[.slice none 0 0, .int .i64 130, .int .i64 (p : Int)]) ?_ rfl ?_
          · simp [results, Tryz.f22, go_sem]
          · exact ⟨_, rfl, OwnT.nil _ _, H3.out⟩
        · have zi : ¬ (N : Int) = 0 := by omega
          have hT := hst.out
          rw [if_neg z] at hT
          rw [hdd.out, hdd.out] at hT
          have hx2 := ext_drop l (p + N)
          have hlp2 : (l.drop (p + N)).length = l.length - (p + N) := List.length_drop
          have HB2 := hidJ (fun W => blanksWidth_any W (l.drop (p + N)) (by omega))
          have hb2 := blN_le false (l.drop (p + N))
          have HN := hidJ hT
          clear hT hst hdd
          generalize blN false (l.drop (p + N)) = B2 at *
          generalize l.drop (p + N) = t2 at *
          generalize l.drop p = t1 at *
          go_wp2_with fail
          refine (HC.out _ (HT.out.keep HO.out.2) (HU.out.keep HO.out.2)).mono ?_
          rintro e w2 ⟨rfl, hg2⟩
          have HO2 := hidJ (show OwnT w2 w.heap.size u5 acc ∧ w.grownBy w2 none from ⟨HO.out.1.keep hg2, gb_none HO.out.2 hg2⟩)
          have hal : w2.grownBy ((w2.alloc (.cells #[.int .i64 K, .string (ByteArray.mk ⟨tt⟩), .int .i64 (p : Int)] 24)).alloc (.cells #[.int .i64 K, .string (ByteArray.mk ⟨tt⟩), .int .i64 (p : Int)] 24)) none := gb_none (World.grownBy_alloc _ _ _) (World.grownBy_alloc _ _ _)
          have hk3 := hidJ (heap_alloc2_new w2 (.cells #[.int .i64 K, .string (ByteArray.mk ⟨tt⟩), .int .i64 (p : Int)] 24) (.cells #[.int .i64 K, .string (ByteArray.mk ⟨tt⟩), .int .i64 (p : Int)] 24))
          have HO3 := hidJ (show OwnT ((w2.alloc (.cells #[.int .i64 K, .string (ByteArray.mk ⟨tt⟩), .int .i64 (p : Int)] 24)).alloc (.cells #[.int .i64 K, .string (ByteArray.mk ⟨tt⟩), .int .i64 (p : Int)] 24)) w.heap.size u5 acc ∧ w.grownBy ((w2.alloc (.cells #[.int .i64 K, .string (ByteArray.mk ⟨tt⟩), .int .i64 (p : Int)] 24)).alloc (.cells #[.int .i64 K, .string (ByteArray.mk ⟨tt⟩), .int .i64 (p : Int)] 24)) none from ⟨HO2.out.1.keep hal, gb_none HO2.out.2 hal⟩)
          have hbs := hidJ HO3.out.2.size
          clear hg2 HC HO hal HO2
          go_wp2_with (at_builtin; refine wp_appT rfl _ _ rfl w.heap.size u5 acc (K, tt, (p : Int)) (w2.heap.size + 1) rfl rfl HO3.out.1 hk3.out (by omega) hbs.out ?_; intro v4 w4 ho4 hg4)
          have H4 := hidJ (show OwnT w4 w.heap.size v4 (acc ++ [(K, tt, (p : Int))]) ∧ w.grownBy w4 none from ⟨ho4, gb_new HO3.out.2 hg4 (fun k hk => (HO3.out.1.lt k hk).1)⟩)
          clear ho4 hg4 hbs hk3 HO3
          generalize (w2.alloc (.cells #[.int .i64 K, .string (ByteArray.mk ⟨tt⟩), .int .i64 (p : Int)] 24)).alloc (.cells #[.int .i64 K, .string (ByteArray.mk ⟨tt⟩), .int .i64 (p : Int)] 24) = w3 at *
          go_wp2_with fail
          refine (HB2.out _).mono ?_
          rintro e w5 ⟨rfl, hg5⟩
          have H5 := hidJ (show OwnT w5 w.heap.size v4 (acc ++ [(K, tt, (p : Int))]) ∧ w.grownBy w5 none from ⟨H4.out.1.keep hg5, gb_none H4.out.2 hg5⟩)
          clear hg5 HB2 H4
          go_wp2
          go_roundg k
          case measure => omega
          case rel => exact ⟨p + (N + B2), f, acc ++ [(K, tt, (p : Int))], v4, rfl, by go_num, by omega, by omega, by omega, by rw [List.length_append]; simp only [List.length_cons, List.length_nil]; omega, HN.out.symm, H5.out.1, H5.out.2⟩
      · obtain rfl : p = l.length := by omega
        have hT : (none, acc ++ [((0 : Int), ([] : LxS), (l.length : Int))]) = T := by
          have := hr.out.1
          rw [List.drop_length, tokG, if_pos rfl] at this
          exact this
        have hO := hr.out.2
        subst hT
        have HR3 := hidJ (show R = if 4096 < (acc ++ [((0 : Int), ([] : LxS), (l.length : Int))]).length then ([], 7, 0) else (acc ++ [((0 : Int), ([] : LxS), (l.length : Int))], 0, 0) from HR2.out)
        have hk3 := hidJ (alloc_at wr (.cells #[.int .i64 0, .string ⟨#[]⟩, .int .i64 (l.length : Int)] 24))
        have HO3 := hidJ (show OwnT (wr.alloc (.cells #[.int .i64 0, .string ⟨#[]⟩, .int .i64 (l.length : Int)] 24)) w.heap.size u5 acc ∧ w.grownBy (wr.alloc (.cells #[.int .i64 0, .string ⟨#[]⟩, .int .i64 (l.length : Int)] 24)) none from ⟨hO.1.keep (World.grownBy_alloc _ _ _), gb_none hO.2 (World.grownBy_alloc _ _ _)⟩)
        have hbs := hidJ HO3.out.2.size
        clear hr hO HR2
        go_wp2_with (at_builtin; refine wp_appT rfl _ _ rfl w.heap.size u5 acc (0, [], (l.length : Int)) wr.heap.size rfl rfl HO3.out.1 hk3.out (by omega) hbs.out ?_; intro v4 w4 ho4 hg4)
        have H4 := hidJ (show OwnT w4 w.heap.size v4 (acc ++ [((0 : Int), ([] : LxS), (l.length : Int))]) ∧ w.grownBy w4 none from ⟨ho4, gb_new HO3.out.2 hg4 (fun k hk => (HO3.out.1.lt k hk).1)⟩)
        obtain ⟨a4, cp4, rfl⟩ := ho4.shape
        clear ho4 hg4 hbs hk3 HO3
        generalize wr.alloc (.cells #[.int .i64 0, .string ⟨#[]⟩, .int .i64 (l.length : Int)] 24) = w3 at *
        generalize acc ++ [((0 : Int), ([] : LxS), (l.length : Int))] = RS at *
        obtain ⟨NR, hNR⟩ : ∃ n, RS.length = n := ⟨_, rfl⟩
        rw [hNR] at H4 HR3
        simp only [hNR]
        clear hNR
        have hlen := fun W ty => len_tokens W ty a4 NR cp4
        by_cases c4 : 4096 < NR
        · have c4i : (4096 : Int) < (NR : Int) := by omega
          have hR := HR3.out
          rw [if_pos c4] at hR
          subst hR
          clear HR3
          go_wp2
          (first | (simp only [hlen, Result.andThen]; go_wp2) | skip)
          refine bodyPost_ret (v := .tuple #[.slice none 0 0, .int .i64 7, .int .i64 0]) ?_ rfl ?_
          · simp [results, Tryz.f22, go_sem]
          · exact ⟨_, rfl, OwnT.nil _ _, H4.out.2⟩
        · have c4i : ¬ (4096 : Int) < (NR : Int) := by omega
          have hR := HR3.out
          rw [if_neg c4] at hR
          subst hR
          clear HR3
          go_wp2
          (first | (simp only [hlen, Result.andThen]; go_wp2) | skip)
          refine bodyPost_ret (v := .tuple #[.slice a4 NR cp4, .int .i64 0, .int .i64 0]) ?_ rfl ?_
          · simp [results, Tryz.f22, go_sem]
          · exact ⟨_, rfl, H4.out.1, H4.out.2⟩
end Go.Proofs.YtifjdfmmafbhkaaGreatDoor
