
/-
  What the program's add turns: all the bits, by one line more of the other row; conditions: where the table and the marks lie, how many words there are.
-/
import Derived.Test.YtmbalnjobcgpkaaBMem
import Derived.Deep.RegionLaw
import Derived.BigRegion
import Derived.Laws.Externs
import Derived.Laws.BitsAllLaws
namespace Go.Proofs.Ytmbalnjobcgpkaa
open Go.RowKit Go.Proofs.Ytmbalnjobcgpkaa.Ln Go.Proofs.Ytmbalnjobcgpkaa.Ol

theorem Try.infoTurn : (Try.prog.info? 97).map (fun i => (i.zero, i.size, i.bytes)) = some (some (.agg #[.int .i64 0, .int .i64 0, .int .u64 0]), 3, 24) := by kernel_rfl
theorem Try.infoStop : (Try.prog.info? 95).map (fun i => (i.zero, i.size, i.bytes)) = some (some (.agg #[.int .i64 0, .slice none 0 0]), 2, 32) := by kernel_rfl
theorem Try.infoU64 : (Try.prog.info? 93).map (fun i => (i.zero, i.size, i.bytes)) = some (some (.int .u64 0), 1, 8) := by kernel_rfl
theorem Try.infoMark : (Try.prog.info? 113).map (fun i => (i.zero, i.size, i.bytes)) = some (some (.agg #[.int .i64 0, .int .u64 0]), 2, 16) := by kernel_rfl
theorem Try.infoMarks : (Try.prog.info? 105).map (fun i => (i.zero, i.size, i.bytes)) = some (some (.slice none 0 0), 1, 24) := by kernel_rfl
theorem cells_new (W : World) (cs : Array Value) (b : Nat) (hb : b = W.heap.size) (ty : TypeId) : ∀ j u, cs.toList[j]? = some u → (W.alloc (.cells cs ty)).cell? ((⟨b, 0, none⟩ : Addr).add j) = some u := by
  intro j u h
  subst hb
  have h3 : (⟨W.heap.size, 0, none⟩ : Addr).add j = ⟨W.heap.size, j, none⟩ := by
    unfold Addr.add
    split <;> simp_all
  have hh : (W.alloc (.cells cs ty)).heap[W.heap.size]? = some (.cells cs ty) := by
    show (W.heap.push _)[W.heap.size]? = _
    exact Array.getElem?_push_size
  rw [h3]
  simp only [World.cell?, hh]
  simpa using h
section
variable {ops : Array Oper} {o : Oper} {a : Act} {w : World}
theorem run_app (t ty e : TypeId) (z : Value) (size bytes : Nat) (ht : Try.prog.underlying t = some (.slice e)) (hinfo : (Try.prog.info? e).map (fun i => (i.zero, i.size, i.bytes)) = some (some z, size, bytes)) (hzs : z.cells.size = size) (hsz : 0 < size)
    (B b : Nat) (mv : Value) (n : Nat) (xs cs : List Value) (hm : w.ownsRow B e size mv n xs) (hc : cs.length = size) (hone : ∀ u ∈ cs, u.oneCell' = true) (hcell : ∀ j u, cs[j]? = some u → w.cell? ((⟨b, 0, none⟩ : Addr).add j) = some u) (hlen : n < 4398046511104) (hby : bytes ≤ 32) (hB : B ≤ w.heap.size) :
    ∃ g c w', (Builtin.append_ #[t, t] ty #[mv, .slice (some ⟨b, 0, none⟩) 1 1]).run Try.prog w = .ok (.slice (some ⟨g, 0, none⟩) (n + 1) c) w' ∧ w'.ownsRow B e size (.slice (some ⟨g, 0, none⟩) (n + 1) c) (n + 1) (xs ++ cs) ∧ w.grownBy w' mv.ownBlock ∧ (some g = mv.ownBlock ∨ g = w.heap.size) := by
  obtain ⟨i0, hi, hz0, hz1, hz2⟩ := info_parts hinfo
  have hb2 : (n + 1) * bytes ≤ 140737488355328 := by
    have : (n + 1) * bytes ≤ (n + 1) * 32 := Nat.mul_le_mul_left _ hby
    omega
  obtain ⟨v', w', hr, h2, h3, _, h5⟩ := run_append_own_at (P := Try.prog) w B t ty e i0 z size bytes ht hi hz0 hz1 hz2 hzs hsz mv n xs hm ⟨b, 0, none⟩ 1 1 cs (by omega) hcell hone (by unfold maxLen; omega) hb2 hB
  obtain ⟨g, c, rfl⟩ : ∃ g c, v' = .slice (some ⟨g, 0, none⟩) (n + 1) c := by
    rcases h2.2 with ⟨_, h0⟩ | ⟨g, cap, _, rfl, _⟩
    · omega
    · exact ⟨g, cap, rfl⟩
  refine ⟨g, c, w', hr, h2, h3, ?_⟩
  rcases h5 with h5 | h5
  · exact Or.inl h5
  · exact Or.inr (by simpa [Value.ownBlock] using h5)
/-- as a step of a region that draws -/
theorem step_app {K : Act → World → Prop} {Q : Exit → Act → World → Prop} {E : Prop}
    (hg : o.guard = none) (s x : Operand) (t e : TypeId) (hop : o.op = Op.call { callee := Callee.builtin Builtin.append, args := #[s, x], argTypes := #[t, t] }) (z : Value) (size bytes : Nat) (ht : Try.prog.underlying t = some (.slice e)) (hinfo : (Try.prog.info? e).map (fun i => (i.zero, i.size, i.bytes)) = some (some z, size, bytes)) (hzs : z.cells.size = size) (hsz : 0 < size)
    (B b : Nat) (mv : Value) (n : Nat) (xs cs : List Value) (hs : a.eval s = mv) (hx : a.eval x = .slice (some ⟨b, 0, none⟩) 1 1)
    (hm : w.ownsRow B e size mv n xs) (hc : cs.length = size) (hone : ∀ u ∈ cs, u.oneCell' = true) (hcell : ∀ j u, cs[j]? = some u → w.cell? ((⟨b, 0, none⟩ : Addr).add j) = some u) (hlen : n < 4398046511104) (hby : bytes ≤ 32) (hB : B ≤ w.heap.size)
    (hK : ∀ g c w', w'.ownsRow B e size (.slice (some ⟨g, 0, none⟩) (n + 1) c) (n + 1) (xs ++ cs) → w.grownBy w' mv.ownBlock → (some g = mv.ownBlock ∨ g = w.heap.size) → K (a.put o.dst (.slice (some ⟨g, 0, none⟩) (n + 1) c)) w') :
    if Region.wanted o (yielded ops a.tmps) = true then Oper.wp Try.prog o a w K Q else E := by
  have hw : Region.wanted o (yielded ops a.tmps) = true := by simp [Region.wanted, hg]
  rw [if_pos hw]
  obtain ⟨g, c, w', hr, h2, h3, h4⟩ := run_app t o.type e z size bytes ht hinfo hzs hsz B b mv n xs cs hm hc hone hcell hlen hby hB
  unfold Oper.wp execOp
  simp only [hop, resolve, invoke, builtin, Sem.run_bind, Sem.run_pure, Result.andThen_ok, List.map_toArray, List.map_cons, List.map_nil, hs, hx, hr]
  exact hK g c w' h2 h3 h4
/-- a call of one of the program's functions, as a step of a region that draws -/
theorem step_call {K : Act → World → Prop} {Q : Exit → Act → World → Prop} {E : Prop} (hg : o.guard = none) (f : FuncId) (xs : Array Operand) (ats : Array TypeId)
    (hop : o.op = Op.call { callee := Callee.value (Operand.func f), args := xs, argTypes := ats }) (args : Array Value) (he : xs.map a.eval = args) (hent : ∀ args w, (callFunc f args).run Try.prog w = .ok (.enter f args) w) {R : Ending → World → Prop} (hc : Calls Try.prog f args w R) (hK : ∀ e w', R e w' → ∃ v, e = .returned v ∧ K (a.put o.dst v) w') :
    if Region.wanted o (yielded ops a.tmps) = true then Oper.wp Try.prog o a w K Q else E := by
  have hw : Region.wanted o (yielded ops a.tmps) = true := by simp [Region.wanted, hg]
  rw [if_pos hw]
  have ef : a.eval (.func f) = .func (.func f) #[] #[] := rfl
  have e1 : execOp a.eval o = callFunc f (xs.map a.eval) := by
    unfold execOp
    simp [hop, resolve, Deferred.ofValue, invoke, ef]
  unfold Oper.wp
  rw [e1, he, hent, Oper.upon_enter]
  refine hc.mono fun e w' h => ?_
  obtain ⟨v, rfl, h2⟩ := hK e w' h
  exact h2
/-- in a plain region -/
theorem wpList_app {rest : List Oper} {Q : Exit → Act → World → Prop}
    (hg : o.guard = none) (s x : Operand) (t e : TypeId) (hop : o.op = Op.call { callee := Callee.builtin Builtin.append, args := #[s, x], argTypes := #[t, t] }) (z : Value) (size bytes : Nat) (ht : Try.prog.underlying t = some (.slice e)) (hinfo : (Try.prog.info? e).map (fun i => (i.zero, i.size, i.bytes)) = some (some z, size, bytes)) (hzs : z.cells.size = size) (hsz : 0 < size)
    (B b : Nat) (mv : Value) (n : Nat) (xs cs : List Value) (hs : a.eval s = mv) (hx : a.eval x = .slice (some ⟨b, 0, none⟩) 1 1)
    (hm : w.ownsRow B e size mv n xs) (hc : cs.length = size) (hone : ∀ u ∈ cs, u.oneCell' = true) (hcell : ∀ j u, cs[j]? = some u → w.cell? ((⟨b, 0, none⟩ : Addr).add j) = some u) (hlen : n < 4398046511104) (hby : bytes ≤ 32) (hB : B ≤ w.heap.size)
    (hK : ∀ g c w', w'.ownsRow B e size (.slice (some ⟨g, 0, none⟩) (n + 1) c) (n + 1) (xs ++ cs) → w.grownBy w' mv.ownBlock → (some g = mv.ownBlock ∨ g = w.heap.size) → wpList Try.prog ops Q rest (a.put o.dst (.slice (some ⟨g, 0, none⟩) (n + 1) c)) w') :
    wpList Try.prog ops Q (o :: rest) a w := by
  refine BigFrame.wpList_want (by simp [Region.wanted, hg]) fun _ hK2 => ?_
  obtain ⟨g, c, w', hr, h2, h3, h4⟩ := run_app t o.type e z size bytes ht hinfo hzs hsz B b mv n xs cs hm hc hone hcell hlen hby hB
  unfold Oper.wp execOp
  simp only [hop, resolve, invoke, builtin, Sem.run_bind, Sem.run_pure, Result.andThen_ok, List.map_toArray, List.map_cons, List.map_nil, hs, hx, hr]
  exact hK2 _ _ (hK g c w' h2 h3 h4)
end
/-- the table's block stays while a row grows -/
theorem TbC.grown {W W' : World} {T : Nat} {c0 c1 c2 c3 c4 c5 c6 c7 c8 : Value} (h : TbC W T c0 c1 c2 c3 c4 c5 c6 c7 c8) {B : Nat} {e : TypeId} {size n : Nat} {v : Value} {xs : List Value} (ho : W.ownsRow B e size v n xs) (he : e ≠ 88) (hg : W.grownBy W' v.ownBlock) : TbC W' T c0 c1 c2 c3 c4 c5 c6 c7 c8 :=
  h.keep (hg.block T h.lt fun hv => own_notT h ho he hv.symm)

end Go.Proofs.Ytmbalnjobcgpkaa

namespace Go.Proofs.Ytmbalnjobcgpkaa
open Go.RowKit Go.Proofs.Ytmbalnjobcgpkaa.Ln Go.Proofs.Ytmbalnjobcgpkaa.Ol

theorem add64_at (x y c s o : Nat) (hc : c ≤ 1) (hs : (x + y + c) % 18446744073709551616 = s) (ho : (x + y + c) / 18446744073709551616 = o) (w : World) :
    (callFunc 93 #[.int .u64 x, .int .u64 y, .int .u64 c]).run Try.prog w = .ok (.value (.tuple #[.int .u64 s, .int .u64 o])) w := by
  subst hs ho
  rw [run_callFunc_extern Try.func93 (by kernel_rfl) (by kernel_rfl) (by kernel_rfl) (e := add64Entry) (by kernel_rfl), run_add64 x y c (by omega) (by omega) (by omega) (by omega)]
  simp only [Result.andThen]
  congr 5 <;> omega

set_option maxHeartbeats 1000000 in
theorem bword_any {B T : Nat} {ah wd mo : Int} {v0 v1 : Value} {at_ : Nat} {vI vT vS : Value} {V : Bs} {N : Nat} {L : List Tn} {S : List Sp} {w : World} (h : Tb B T ah wd mo v0 v1 at_ vI vT vS V N L S w) (j : Nat) (hj : j < N) (mk cin : Nat) (hmk : mk < 18446744073709551616) (hc : cin ≤ 1) (H : Bs) (co : Nat)
    (hH : ((Gl.word V j + (Gl.word V j &&& mk) + cin) % 18446744073709551616) ||| (Gl.word V j &&& (18446744073709551615 - mk)) = Gl.word H j) (hco : (Gl.word V j + (Gl.word V j &&& mk) + cin) / 18446744073709551616 = co)
    (hN : N ≤ 17179869184) (hL : L.length ≤ 274877906944) :
    Calls Try.prog 89 #[.pointer (some ⟨T, 0, none⟩), .int .i64 j, .int .u64 mk, .int .u64 cin] w fun e w' => e = .returned (.int .u64 co) ∧ KpT B T w w' ∧ ∃ vT' X, Tb B T ah wd mo v0 v1 at_ vI vT' vS (setw V j H) N (L ++ X) S w' ∧ X.length ≤ 1 ∧ (∀ e ∈ X, e.1 = at_ ∧ e.2.1 = j) ∧ undo X (setw V j H) = V := by
  obtain ⟨a, ha⟩ : ∃ a, Gl.word V j = a := ⟨_, rfl⟩
  have hal : a < 18446744073709551616 := by rw [← ha]; exact Gl.word_lt V j
  rw [ha] at hH hco
  obtain ⟨x, hx⟩ : ∃ x, a &&& mk = x := ⟨_, rfl⟩
  obtain ⟨y, hy⟩ : ∃ y, a &&& (18446744073709551615 - mk) = y := ⟨_, rfl⟩
  obtain ⟨nw, hnw⟩ : ∃ nw, Gl.word H j = nw := ⟨_, rfl⟩
  rw [hx] at hH hco
  rw [hy, hnw] at hH
  obtain ⟨s, hs⟩ : ∃ s, (a + x + cin) % 18446744073709551616 = s := ⟨_, rfl⟩
  rw [hs] at hH
  have hxl : x < 18446744073709551616 := by rw [← hx]; exact Nat.lt_of_le_of_lt Nat.and_le_left hal
  have hyl : y < 18446744073709551616 := by rw [← hy]; exact Nat.lt_of_le_of_lt Nat.and_le_left hal
  have hsl : s < 18446744073709551616 := by rw [← hs]; exact Nat.mod_lt _ (by decide)
  have hand : bits BinOp.and IntKind.u64 (a : Int) (mk : Int) = (x : Int) := by rw [u64_and_nat a mk hal hmk, hx]
  have hnot : bits BinOp.andNot IntKind.u64 (a : Int) (mk : Int) = (y : Int) := by rw [u64_andNot_nat a mk hal hmk, hy]
  have hor : bits BinOp.or IntKind.u64 (s : Int) (y : Int) = (nw : Int) := by rw [u64_or_nat s y hsl hyl, hH]
  have hadd := add64_at a x cin s co hc hs hco
  obtain ⟨g, cap, hvI, _, hglt⟩ := h.ids.form (by omega)
  subst hvI
  have HT := hidden h
  have HC := hidden h.c
  have HA := hidden ha
  have HNW := hidden hnw
  have HSW := hidden hH
  have hcap := (own_shape h.ids)
  obtain ⟨_, _, hsh, hcap, _⟩ := hcap
  cases hsh
  obtain ⟨t0, t1, t2, t3, t4, t5, t6, t7, t8⟩ := h.c.cells
  have tf : ∀ i, w.frozen? ⟨T, i, none⟩ = false := h.c.thaw
  have g0 : w.cell? ⟨g, j, none⟩ = some (.int .u64 a) := by rw [h.ids.cellAt j (by omega), wcells_at V hj, ha]
  have gf : w.frozen? ⟨g, j, none⟩ = false := h.ids.frozenAt j
  have HN := hidden hN
  have HL := hidden hL
  have HB0 := hidden (Below.refl w.heap.size w)
  clear h hH hco hx hy hs ha hnw hN hL t0 t1 t2 t3 t7 t8 hmk hal hxl hyl hsl
  go_enter Try.func89, Try.ntmps89
  by_cases hne : nw = a
  · subst hne
    go_wp2_with (simp only [hadd])
    go_ret
    refine ⟨rfl, KpT.refl, vT, [], ?_, by simp, by simp, ?_⟩
    · rw [setw_same (by rw [HNW.out, HA.out]), List.append_nil]; exact HT.out
    · exact setw_same (by rw [HNW.out, HA.out])
  · have hb : ((nw : Int) != (a : Int)) = true := by simp; omega
    have HLL := hidden (show L.length < 4398046511104 by have := HL.out; omega)
    have HBs := hidden (show B ≤ w.heap.size by have := HT.out.lt; have := HT.out.lo; omega)
    go_wp2_with (simp only [hadd])
    clear hand hnot hor hadd
    have q6 : ∀ o, (w.alloc o).cell? ⟨T, 6, none⟩ = some vT := fun o => (HC.out.alloc o).cells.2.2.2.2.2.2.1
    have q4 : ∀ o, (w.alloc o).cell? ⟨T, 4, none⟩ = some (Z at_) := fun o => (HC.out.alloc o).cells.2.2.2.2.1
    go_region_law (refine step_app rfl (.tmp 41) (.tmp 49) 85 97 rfl (.agg #[.int .i64 0, .int .i64 0, .int .u64 0]) 3 24 Try.underlying85 Try.infoTurn rfl (by decide) B w.heap.size vT L.length (tcells L) (tcells [(at_, j, V)]) (by simp [Act.eval]) (by simp [Act.eval]) (owns_later HT.out.trn (by (with_reducible (repeat (first | exact HB0.out | exact Below.refl _ _ | apply bel_alloc | apply bel_put | apply bel_set | apply Below.drew | apply below_drewN | assumption | omega))))) rfl (tcells_one _) ?_ HLL.out (by decide) (Nat.le_trans HBs.out (by simp)) ?_; (first | exact cells_new w _ _ rfl _ | (simp only [tcells, HA.out]; exact cells_new _ _ _ (by simp) _)); intro g9 c9 w9 hown9 hg9 hl9; have HC9 := hidden (TbC.grown (HC.out.later (by (with_reducible (repeat (first | exact HB0.out | exact Below.refl _ _ | apply bel_alloc | apply bel_put | apply bel_set | apply Below.drew | apply below_drewN | assumption | omega))))) (owns_later HT.out.trn (by (with_reducible (repeat (first | exact HB0.out | exact Below.refl _ _ | apply bel_alloc | apply bel_put | apply bel_set | apply Below.drew | apply below_drewN | assumption | omega))))) (by decide) hg9); have tf9 : w9.frozen? ⟨T, 6, none⟩ = false := HC9.out.thaw 6; have tc9 : w9.cell? ⟨T, 6, none⟩ = some vT := HC9.out.cells.2.2.2.2.2.2.1)
    all_goals
      have ho : w9.ownsRow B 97 3 (.slice (some ⟨g9, 0, none⟩) (L.length + 1) c9) (L ++ [((at_, j, V) : Tn)]).length (tcells (L ++ [((at_, j, V) : Tn)])) := by rw [List.length_append, tcells_app]; exact hown9
      have HR3 := hidden (((HT.out.rw_.later (by (with_reducible (repeat (first | exact HB0.out | exact Below.refl _ _ | apply bel_alloc | apply bel_put | apply bel_set | apply Below.drew | apply below_drewN | assumption | omega))))).turn ho hg9).setT HC9.out 6 (.slice (some ⟨g9, 0, none⟩) (L.length + 1) c9))
      have HC3 := hidden (HC9.out.set6 (.slice (some ⟨g9, 0, none⟩) (L.length + 1) c9))
      have HK3 := hidden (((KpT.of_below (B := B) (T := T) (W := w) (by (with_reducible (repeat (first | exact HB0.out | exact Below.refl _ _ | apply bel_alloc | apply bel_put | apply bel_set | apply Below.drew | apply below_drewN | assumption | omega))))).trans (kpt_row (owns_later HT.out.trn (by (with_reducible (repeat (first | exact HB0.out | exact Below.refl _ _ | apply bel_alloc | apply bel_put | apply bel_set | apply Below.drew | apply below_drewN | assumption | omega))))) (Or.inr (Or.inl rfl)) hg9)).setT 6 (.slice (some ⟨g9, 0, none⟩) (L.length + 1) c9))
      clear ho hown9 hg9 hl9 HC9 tf9 tc9 q6 q4 t4 t5 t6 tf g0 gf HB0 HC
      generalize World.setCell w9 _ _ = W2 at HR3 HC3 HK3 ⊢
      obtain ⟨t0, t1, t2, t3, t4, t5, t6, t7, t8⟩ := HC3.out.cells
      have gf : W2.frozen? ⟨g, j, none⟩ = false := HR3.out.ids.frozenAt j
      have gc : W2.cell? ⟨g, j, none⟩ = some (.int .u64 a) := by rw [HR3.out.ids.cellAt j (by omega), wcells_at V hj, HA.out]
      clear t0 t1 t2 t3 t4 t6 t7 t8
      go_wp2_with fail
      go_ret
      obtain ⟨k1, k2⟩ := HR3.out.word hj H
      rw [HNW.out] at k1 k2
      refine ⟨rfl, HK3.out.trans (kpt_row HR3.out.ids (Or.inl rfl) k2), _, [(at_, j, V)], k1.tb (HC3.out.other (fun e => ?_)) HT.out.lo, Nat.le_refl _, ?_, setw_back V j H⟩
      · exact own_notT HC3.out HR3.out.ids (by decide) (by rw [e]; rfl)
      · intro e he; rw [List.mem_singleton.1 he]; exact ⟨rfl, rfl⟩

end Go.Proofs.Ytmbalnjobcgpkaa

namespace Go.Proofs.Ytmbalnjobcgpkaa
open Go.RowKit Go.Proofs.Ytmbalnjobcgpkaa.Ln Go.Proofs.Ytmbalnjobcgpkaa.Ol

/-- the low words of some bits, the others of others -/
def mix (V H : Bs) (nx : Nat) : Bs := fun p => if p < 64 * nx then H p else V p
theorem mix_setw (V H : Bs) (j : Nat) : setw (mix V H j) j H = mix V H (j + 1) := by
  funext p
  unfold setw mix
  by_cases h : p / 64 = j
  · rw [if_pos h, if_pos (by omega)]
  · rw [if_neg h]
    by_cases h2 : p < 64 * j
    · rw [if_pos h2, if_pos (by omega)]
    · rw [if_neg h2, if_neg (by omega)]
theorem mix_word (V H : Bs) (j : Nat) : Gl.word (mix V H j) j = Gl.word V j := word_congr fun p hp => by unfold mix; rw [if_neg (by omega)]
theorem mix_zero (V H : Bs) : mix V H 0 = V := by funext p; unfold mix; rw [if_neg (by omega)]
theorem carry_none {V g H cr : Bs} (hR : Rp V g H cr) {a : Nat} (ha : cr a = false) : ∀ n, (∀ p, a ≤ p → p < a + n → g p = false) → cr (a + n) = false ∧ ∀ p, a ≤ p → p < a + n → H p = V p := by
  intro n
  induction n with
  | zero => intro _; exact ⟨ha, fun p h1 h2 => by omega⟩
  | succ n ih =>
    intro hg
    obtain ⟨i1, i2⟩ := ih (fun p h1 h2 => hg p h1 (by omega))
    have e := hR.2 (a + n)
    rw [hg (a + n) (by omega) (by omega), i1] at e
    refine ⟨by rw [← Nat.add_assoc, e.1]; simp, fun p h1 h2 => ?_⟩
    by_cases hp : p = a + n
    · rw [hp, e.2]; simp
    · exact i2 p h1 (by omega)
theorem mix_still {V g H cr : Bs} (hR : Rp V g H cr) {k n : Nat} (hk : k ≤ n) (hc : cr (64 * k) = false) (hg : ∀ p, 64 * k ≤ p → p < 64 * n → g p = false) : mix V H k = mix V H n ∧ cr (64 * n) = false := by
  obtain ⟨h1, h2⟩ := carry_none hR hc (64 * n - 64 * k) (fun p a b => hg p a (by omega))
  rw [show 64 * k + (64 * n - 64 * k) = 64 * n by omega] at h1 h2
  refine ⟨funext fun p => ?_, h1⟩
  unfold mix
  by_cases hp : p < 64 * k
  · rw [if_pos hp, if_pos (by omega)]
  · rw [if_neg hp]
    by_cases hp2 : p < 64 * n
    · rw [if_pos hp2, h2 p (by omega) hp2]
    · rw [if_neg hp2]
theorem word_zero {g : Bs} {j : Nat} (h : ∀ p, p / 64 = j → g p = false) : Gl.word g j = 0 := by rw [word_congr (g := fun _ => false) h, Gl.word_none]
theorem toNat_le1 (b : Bool) : b.toNat ≤ 1 := by cases b <;> decide

theorem bword_mix {B T : Nat} {ah wd mo : Int} {v0 v1 : Value} {at_ : Nat} {vI vT vS : Value} {V g H cr : Bs} {N : Nat} {L : List Tn} {S : List Sp} {w : World} (hR : Rp V g H cr) (j : Nat) (h : Tb B T ah wd mo v0 v1 at_ vI vT vS (mix V H j) N L S w) (hj : j < N) (mk : Nat) (hmk : Gl.word g j = mk)
    (hN : N ≤ 17179869184) (hL : L.length ≤ 274877906944) :
    Calls Try.prog 89 #[.pointer (some ⟨T, 0, none⟩), .int .i64 j, .int .u64 mk, .int .u64 (cr (64 * j)).toNat] w fun e w' => e = .returned (.int .u64 (cr (64 * (j + 1))).toNat) ∧ KpT B T w w' ∧ ∃ vT' X, Tb B T ah wd mo v0 v1 at_ vI vT' vS (mix V H (j + 1)) N (L ++ X) S w' ∧ X.length ≤ 1 ∧ (∀ e ∈ X, e.1 = at_ ∧ e.2.1 < N) ∧ undo X (mix V H (j + 1)) = mix V H j := by
  subst hmk
  obtain ⟨s1, s2⟩ := word_sum V g H cr j hR.2
  rw [← mix_setw]
  refine (bword_any h j hj (Gl.word g j) (cr (64 * j)).toNat (Gl.word_lt g j) (toNat_le1 _) H (cr (64 * j + 64)).toNat (by rw [mix_word]; exact s1) (by rw [mix_word]; exact s2) hN hL).mono ?_
  rintro e w' ⟨rfl, hk, vT', X, a1, a2, a3, a4⟩
  exact ⟨by rw [show 64 * (j + 1) = 64 * j + 64 by omega], hk, vT', X, a1, a2, fun e he => ⟨(a3 e he).1, by rw [(a3 e he).2]; exact hj⟩, a4⟩

/-- so far a carry has gone on -/
structure Ps (B T : Nat) (ah wd mo : Int) (v0 v1 : Value) (at_ : Nat) (vI vS : Value) (V H : Bs) (N : Nat) (L : List Tn) (S : List Sp) (w : World) (a k : Nat) (wr : World) : Prop where
  kp : KpT B T w wr
  tb : ∃ vT' X, Tb B T ah wd mo v0 v1 at_ vI vT' vS (mix V H k) N (L ++ X) S wr ∧ X.length ≤ k - a ∧ (∀ e ∈ X, e.1 = at_ ∧ e.2.1 < N) ∧ undo X (mix V H k) = mix V H a
theorem Ps.step {B T : Nat} {ah wd mo : Int} {v0 v1 : Value} {at_ : Nat} {vI vS : Value} {V H : Bs} {N : Nat} {L : List Tn} {S : List Sp} {w : World} {a k : Nat} {wr w' : World} (hak : a ≤ k) (hkp : KpT B T w wr) {X : List Tn} (hl : X.length ≤ k - a) (hx : ∀ e ∈ X, e.1 = at_ ∧ e.2.1 < N) (hu : undo X (mix V H k) = mix V H a) (kp' : KpT B T wr w')
    {vT' : Value} {Y : List Tn} (hb : Tb B T ah wd mo v0 v1 at_ vI vT' vS (mix V H (k + 1)) N ((L ++ X) ++ Y) S w') (hl2 : Y.length ≤ 1) (hy : ∀ e ∈ Y, e.1 = at_ ∧ e.2.1 < N) (hu2 : undo Y (mix V H (k + 1)) = mix V H k) : Ps B T ah wd mo v0 v1 at_ vI vS V H N L S w a (k + 1) w' := by
  rw [List.append_assoc] at hb
  refine ⟨hkp.trans kp', vT', X ++ Y, hb, by rw [List.length_append]; omega, fun e he => ?_, by rw [undo_app, hu2, hu]⟩
  rcases List.mem_append.1 he with he | he
  · exact hx e he
  · exact hy e he

set_option maxHeartbeats 1000000 in
theorem bpass_any {B T : Nat} {ah wd mo : Int} {v0 v1 : Value} {at_ : Nat} {vI vT vS : Value} {V g H cr : Bs} {N : Nat} {L : List Tn} {S : List Sp} {w : World} (hR : Rp V g H cr) (a n : Nat) (han : a ≤ n) (hn : n ≤ N) (hg : ∀ p, 64 * a ≤ p → p < 64 * n → g p = false) (h : Tb B T ah wd mo v0 v1 at_ vI vT vS (mix V H a) N L S w)
    (hN : N ≤ 17179869184) (hL : L.length + (n - a) ≤ 274877906944) :
    Calls Try.prog 88 #[.pointer (some ⟨T, 0, none⟩), .int .i64 a, .int .i64 n, .int .u64 (cr (64 * a)).toNat] w fun e w' => e = .returned (.int .u64 (cr (64 * n)).toNat) ∧ Ps B T ah wd mo v0 v1 at_ vI vS V H N L S w a n w' := by
  have HR := hidden hR
  have HG := hidden hg
  have HS := hidden (show Ps B T ah wd mo v0 v1 at_ vI vS V H N L S w a a w from ⟨KpT.refl, vT, [], by rw [List.append_nil]; exact h, by simp, by simp, rfl⟩)
  have HL := hidden hL
  have HA := hidden (show a ≤ 17179869184 ∧ n ≤ 17179869184 by omega)
  clear hR hg h hL
  go_enter Try.func88, Try.ntmps88
  go_wp2_with fail
  go_loopw [1, 3] (fun i c wr => ∃ k : Nat, k ≤ n ∧ a ≤ k ∧ i = .int .i64 k ∧ c = .int .u64 (cr (64 * k)).toNat ∧ Hid (Ps B T ah wd mo v0 v1 at_ vI vS V H N L S w a k wr)) (fun i _ _ => n - (intOf i).toNat)
  case atStart => exact ⟨a, han, Nat.le_refl _, rfl, rfl, HS.out⟩
  case round =>
    obtain ⟨k, hkn, hak, rfl, rfl, hps⟩ := hrel
    clear HS
    obtain ⟨c, hc⟩ : ∃ c, cr (64 * k) = c := ⟨_, rfl⟩
    rw [hc]
    have HC := hidden hc
    have hk2 := HA.out.2
    have hk3 : k ≤ 17179869184 := by omega
    clear hc
    cases c with
    | false =>
      have HE := hidden (mix_still HR.out hkn HC.out (fun p h1 h2 => HG.out p (by omega) h2))
      rw [show (false.toNat : Nat) = 0 from rfl]
      go_wp2_with fail
      go_ret
      refine ⟨by rw [HE.out.2]; rfl, ?_⟩
      obtain ⟨kp, vT', X, b1, b2, b3, b4⟩ := hps.out
      exact ⟨kp, vT', X, by rw [← HE.out.1]; exact b1, by omega, b3, by rw [← HE.out.1]; exact b4⟩
    | true =>
      rw [show (true.toNat : Nat) = 1 from rfl]
      by_cases hlt : k < n
      · obtain ⟨kp, vT', X, b1, b2, b3, b4⟩ := hps.out
        have HB1 := hidden b1
        have HB2 := hidden b2
        have HB3 := hidden b3
        have HB4 := hidden b4
        have HK := hidden kp
        have HLL := hidden (show (L ++ X).length ≤ 274877906944 by rw [List.length_append]; have := HL.out; omega)
        clear kp b1 b2 b3 b4 hps
        go_wp2_with fail
        have hcall := bword_mix HR.out k HB1.out (by omega) 0 (word_zero (fun p hp => HG.out p (by omega) (by omega))) hN HLL.out
        rw [HC.out, show (true.toNat : Nat) = 1 from rfl] at hcall
        refine hcall.mono ?_
        clear hcall
        rintro e w2 ⟨rfl, hk, vT2, Y, c1, c2, c3, c4⟩
        have HP := hidden (Ps.step hak HK.out HB2.out HB3.out HB4.out hk c1 c2 c3 c4)
        clear hk c1 c2 c3 c4
        go_wp2_with fail
        go_roundw
        case rel => exact ⟨k + 1, by omega, by omega, by go_num, rfl, HP.out⟩
        case measure => simp [intOf]; omega
      · obtain rfl : k = n := by omega
        go_wp2_with fail
        go_ret
        exact ⟨by rw [HC.out]; rfl, hps.out⟩

end Go.Proofs.Ytmbalnjobcgpkaa

namespace Go.Proofs.Ytmbalnjobcgpkaa
open Go.RowKit Go.Proofs.Ytmbalnjobcgpkaa.Ln Go.Proofs.Ytmbalnjobcgpkaa.Ol

/-- marks lie in memory: the words that have some, and the words themselves -/
def MkAt (W : World) (v : Value) (ws : List Nat) (g : Bs) : Prop :=
  (ws = [] ∧ ∃ ao cap, v = .slice ao 0 cap ∧ (ao = none → cap = 0)) ∨ ∃ b o cap cur fr, v = .slice (some ⟨b, o, none⟩) ws.length cap ∧ ws.length ≤ cap ∧ W.heap[b]? = some (.cells cur 113 fr) ∧ ∀ (i : Nat) x, ws[i]? = some x → W.cell? ⟨b, o + i * 2, none⟩ = some (Z x) ∧ W.cell? ⟨b, o + i * 2 + 1, none⟩ = some (U (Gl.word g x))
theorem MkAt.shape {W : World} {v : Value} {ws : List Nat} {g : Bs} (h : MkAt W v ws g) : ∃ ao cap, v = .slice ao ws.length cap := by
  rcases h with ⟨rfl, ao, cap, rfl, _⟩ | ⟨b, o, cap, _, _, rfl, _⟩
  · exact ⟨ao, cap, rfl⟩
  · exact ⟨_, cap, rfl⟩
theorem MkAt.block {W W' : World} {v : Value} {ws : List Nat} {g : Bs} (h : MkAt W v ws g) (hb : ∀ (b : Nat) cur fr, W.heap[b]? = some (Obj.cells cur 113 fr) → W'.heap[b]? = W.heap[b]?) : MkAt W' v ws g := by
  rcases h with h | ⟨b, o, cap, cur, fr, e, h1, h2, h3⟩
  · exact Or.inl h
  · have hb2 := hb b cur fr h2
    refine Or.inr ⟨b, o, cap, cur, fr, e, h1, hb2.trans h2, fun i x hx => ?_⟩
    rw [World.cell?_of_block (a := ⟨b, o + i * 2, none⟩) hb2, World.cell?_of_block (a := ⟨b, o + i * 2 + 1, none⟩) hb2]
    exact h3 i x hx
theorem MkAt.later {W W' : World} {v : Value} {ws : List Nat} {g : Bs} (h : MkAt W v ws g) (hb : Below W.heap.size W W') : MkAt W' v ws g :=
  MkAt.block h fun b _ _ hh => hb.block b (Array.getElem?_eq_some_iff.1 hh).1
theorem MkAt.kpt {W W' : World} {v : Value} {ws : List Nat} {g : Bs} {B T : Nat} {c0 c1 c2 c3 c4 c5 c6 c7 c8 : Value} (h : MkAt W v ws g) (hc : TbC W T c0 c1 c2 c3 c4 c5 c6 c7 c8) (hk : KpT B T W W') : MkAt W' v ws g :=
  MkAt.block h fun b cur fr hh => hk.block b (Array.getElem?_eq_some_iff.1 hh).1 (fun e => by
    subst e
    rw [show W.heap[b]? = _ from hc] at hh
    cases hh) (Or.inr fun c t f h2 => by rw [hh] at h2; cases h2; decide)
/-- so far the marks are added -/
structure Ad (B T : Nat) (ah wd mo : Int) (v0 v1 : Value) (at_ : Nat) (vS : Value) (V H : Bs) (N Nb : Nat) (L : List Tn) (S : List Sp) (w : World) (nx N' : Nat) (wr : World) : Prop where
  kp : KpT B T w wr
  tb : ∃ vI' vT' X, Tb B T ah wd mo v0 v1 at_ vI' vT' vS (mix V H nx) N' (L ++ X) S wr ∧ N ≤ N' ∧ N' ≤ Nb ∧ nx ≤ N' ∧ X.length ≤ nx ∧ (∀ e ∈ X, e.1 = at_ ∧ e.2.1 < N') ∧ undo X (mix V H nx) = V
section
variable {B T : Nat} {ah wd mo : Int} {v0 v1 : Value} {at_ : Nat} {vS : Value} {V H : Bs} {N Nb : Nat} {L : List Tn} {S : List Sp} {w : World}
theorem Ad.pass {a k : Nat} (hak : a ≤ k) {wr w' : World} (hkp : KpT B T w wr) {vI' : Value} {N' : Nat} {X : List Tn} (hl : X.length ≤ a) (hx : ∀ e ∈ X, e.1 = at_ ∧ e.2.1 < N') (hu : undo X (mix V H a) = V) (h1 : N ≤ N') (h2 : N' ≤ Nb) (h3 : k ≤ N') (h : Ps B T ah wd mo v0 v1 at_ vI' vS V H N' (L ++ X) S wr a k w') : Ad B T ah wd mo v0 v1 at_ vS V H N Nb L S w k N' w' := by
  obtain ⟨kp, vT', Y, b1, b2, b3, b4⟩ := h
  rw [List.append_assoc] at b1
  refine ⟨hkp.trans kp, vI', vT', X ++ Y, b1, h1, h2, h3, by rw [List.length_append]; omega, fun e he => ?_, by rw [undo_app, b4, hu]⟩
  rcases List.mem_append.1 he with he | he
  · exact hx e he
  · exact b3 e he
theorem Ad.more {k : Nat} {wr w' : World} (hkp : KpT B T w wr) {vI' vT' : Value} {N' : Nat} {X Y : List Tn} (hl : X.length ≤ k) (hx : ∀ e ∈ X, e.1 = at_ ∧ e.2.1 < N') (hu : undo X (mix V H k) = V) (h1 : N ≤ N') (h2 : N' ≤ Nb) (h3 : k < N') (kp : KpT B T wr w') (b1 : Tb B T ah wd mo v0 v1 at_ vI' vT' vS (mix V H (k + 1)) N' ((L ++ X) ++ Y) S w') (b2 : Y.length ≤ 1) (b3 : ∀ e ∈ Y, e.1 = at_ ∧ e.2.1 < N') (b4 : undo Y (mix V H (k + 1)) = mix V H k) : Ad B T ah wd mo v0 v1 at_ vS V H N Nb L S w (k + 1) N' w' := by
  rw [List.append_assoc] at b1
  refine ⟨hkp.trans kp, vI', vT', X ++ Y, b1, h1, h2, by omega, by rw [List.length_append]; omega, fun e he => ?_, by rw [undo_app, b4, hu]⟩
  rcases List.mem_append.1 he with he | he
  · exact hx e he
  · exact b3 e he
theorem Ad.later {k N' : Nat} {wr w' : World} (h : Ad B T ah wd mo v0 v1 at_ vS V H N Nb L S w k N' wr) (hb : Below wr.heap.size wr w') : Ad B T ah wd mo v0 v1 at_ vS V H N Nb L S w k N' w' := by
  obtain ⟨kp, vI', vT', X, b1, b2⟩ := h
  exact ⟨kp.trans (KpT.of_below hb), vI', vT', X, b1.later hb, b2⟩
/-- one word more, of bits that are all set -/
theorem Ad.grow {k : Nat} {wr w9 : World} (hkp : KpT B T w wr) {vI' vT' : Value} {N' : Nat} {X : List Tn} {g9 c9 : Nat} (b1 : Tb B T ah wd mo v0 v1 at_ vI' vT' vS (mix V H k) N' (L ++ X) S wr) (hx : X.length ≤ k) (hx2 : ∀ e ∈ X, e.1 = at_ ∧ e.2.1 < N') (hu : undo X (mix V H k) = V) (h1 : N ≤ N') (h2 : N' < Nb) (h3 : k ≤ N')
    (ho : w9.ownsRow B 93 1 (.slice (some ⟨g9, 0, none⟩) (N' + 1) c9) (N' + 1) (wcells (mix V H k) N' ++ [.int .u64 18446744073709551615])) (hg : wr.grownBy w9 vI'.ownBlock) (hl : some g9 = vI'.ownBlock ∨ g9 = wr.heap.size) :
    Ad B T ah wd mo v0 v1 at_ vS V H N Nb L S w k (N' + 1) (w9.setCell ⟨T, 5, none⟩ (.slice (some ⟨g9, 0, none⟩) (N' + 1) c9)) := by
  have e : wcells (mix V H k) N' ++ [.int .u64 18446744073709551615] = wcells (mix V H k) (N' + 1) := by rw [wcells_succ, word_full (fun p hp => b1.top p (by omega))]; rfl
  rw [e] at ho
  have hc := b1.c.grown b1.ids (by decide) hg
  have hr := (b1.rw_.grow ho hg (by rcases hl with hl | hl; exact Or.inl hl; exact Or.inr (by rw [← hl]; rfl))).setT hc 5 (.slice (some ⟨g9, 0, none⟩) (N' + 1) c9)
  exact ⟨(hkp.trans (kpt_row b1.ids (Or.inl rfl) hg)).setT 5 _, _, vT', X, hr.tb (hc.set5 _) b1.lo, by omega, by omega, by omega, hx, fun e he => ⟨(hx2 e he).1, by have := (hx2 e he).2; omega⟩, hu⟩
end
theorem sorted_next {ws : List Nat} {i x : Nat} (hs : ws.Pairwise (· < ·)) (hx : ws[i]? = some x) : ∀ y ∈ ws.drop (i + 1), x + 1 ≤ y := by
  have e := cut_at hx
  intro y hy
  rw [e] at hs
  exact (List.pairwise_cons.1 (List.pairwise_append.1 hs).2.1).1 y hy

theorem sorted_len {Nb : Nat} (ws : List Nat) : ∀ lo, ws.Pairwise (· < ·) → (∀ x ∈ ws, lo ≤ x ∧ x < Nb) → ws.length ≤ Nb - lo := by
  induction ws with
  | nil => intro lo _ _; simp
  | cons x ws ih =>
    intro lo hs hw
    obtain ⟨h1, h2⟩ := List.pairwise_cons.1 hs
    have := ih (x + 1) h2 (fun y hy => ⟨h1 y hy, (hw y (by simp [hy])).2⟩)
    have := hw x (by simp)
    rw [List.length_cons]; omega
/-- one mark in a block of its own -/
def Mk1 (W : World) (b x m : Nat) : Prop := W.heap[b]? = some (.cells #[Z x, U m] 113 (0, 0))
theorem Mk1.cells {W : World} {b x m : Nat} (h : Mk1 W b x m) : W.cell? ⟨b, 0, none⟩ = some (.int .i64 x) ∧ W.cell? ⟨b, 1, none⟩ = some (.int .u64 m) := by
  unfold World.cell?; rw [show W.heap[b]? = _ from h]; exact ⟨rfl, rfl⟩
theorem Mk1.kpt {W W' : World} {b x m B T : Nat} {c0 c1 c2 c3 c4 c5 c6 c7 c8 : Value} (h : Mk1 W b x m) (hc : TbC W T c0 c1 c2 c3 c4 c5 c6 c7 c8) (hk : KpT B T W W') : Mk1 W' b x m :=
  (hk.block b (Array.getElem?_eq_some_iff.1 h).1 (fun e => by
    subst e
    have hc2 : W.heap[b]? = _ := hc
    rw [show W.heap[b]? = _ from h] at hc2
    cases hc2) (Or.inr fun c t f h2 => by rw [show W.heap[b]? = _ from h] at h2; cases h2; decide)).trans h
theorem MkAt.open_ {W : World} {a : Option Addr} {n c : Nat} {ws : List Nat} {g : Bs} (h : MkAt W (.slice a n c) ws g) (hn : ws.length = n) {k x : Nat} (hx : ws[k]? = some x) : ∃ b o, a = some ⟨b, o, none⟩ ∧ n ≤ c ∧ b < W.heap.size ∧ W.cell? ⟨b, o + k * 2, none⟩ = some (.int .i64 x) ∧ W.cell? ⟨b, o + k * 2 + 1, none⟩ = some (.int .u64 (Gl.word g x)) := by
  rcases h with ⟨rfl, _⟩ | ⟨b, o, cap, cur, fr, e, h1, h2, h3⟩
  · simp at hx
  · subst hn
    cases e
    exact ⟨b, o, rfl, h1, (Array.getElem?_eq_some_iff.1 h2).1, h3 k x hx⟩
theorem mix_end {V g H cr : Bs} (hR : Rp V g H cr) {q N : Nat} (hq : q ≤ N) (ht : ∀ p, 64 * N ≤ p → mix V H q p = true) (hg : ∀ p, 64 * q ≤ p → g p = false) : mix V H N = H := by
  funext p
  unfold mix
  by_cases hp : p < 64 * N
  · rw [if_pos hp]
  · rw [if_neg hp, (hR.2 p).2, hg p (by omega)]
    have h := ht p (by omega)
    unfold mix at h
    rw [if_neg (by omega)] at h
    rw [h]; simp

set_option maxHeartbeats 4000000 in
theorem badd_any {B T : Nat} {ah wd mo : Int} {v0 v1 : Value} {at_ : Nat} {vI vT vS vM : Value} {V g g2 H cr : Bs} {N Nb : Nat} {L : List Tn} {S : List Sp} {w : World} (hR : Rp V g H cr) (ws : List Nat) (hM : MkAt w vM ws g2) (hs : ws.Pairwise (· < ·)) (hw : ∀ x ∈ ws, x < Nb) (hin : ∀ x ∈ ws, ∀ p, p / 64 = x → g2 p = g p) (hall : ∀ p, g p = true → p / 64 ∈ ws)
    (h : Tb B T ah wd mo v0 v1 at_ vI vT vS V N L S w) (hN : N ≤ Nb) (hNb : Nb ≤ 17179869184) (hL : L.length ≤ 137438953472) :
    Calls Try.prog 83 #[.pointer (some ⟨T, 0, none⟩), vM] w fun e w' => (∃ v, e = .returned v) ∧ KpT B T w w' ∧ ∃ vI' vT' N' X, Tb B T ah wd mo v0 v1 at_ vI' vT' vS H N' (L ++ X) S w' ∧ N ≤ N' ∧ N' ≤ Nb ∧ X.length ≤ N' ∧ (∀ e ∈ X, e.1 = at_ ∧ e.2.1 < N') ∧ undo X H = V := by
  have HR := hidden hR
  have HM := hidden hM
  have HSO := hidden hs
  have HW := hidden hw
  have HIN := hidden hin
  have HALL := hidden hall
  have HL := hidden hL
  have HS := hidden (show Ad B T ah wd mo v0 v1 at_ vS V H N Nb L S w 0 N w from ⟨KpT.refl, vI, vT, [], by rw [List.append_nil, mix_zero]; exact h, Nat.le_refl _, hN, Nat.zero_le _, by simp, by simp, by rw [mix_zero]; rfl⟩)
  have HT := hidden h.c
  have HBs := hidden (show B ≤ w.heap.size by have := h.lt; have := h.lo; omega)
  obtain ⟨n, hn⟩ : ∃ n, ws.length = n := ⟨_, rfl⟩
  obtain ⟨am, cm, rfl⟩ := hM.shape
  rw [hn] at HM
  have hnb : n ≤ 17179869184 := by have := sorted_len (Nb := Nb) ws 0 hs (fun x hx => ⟨Nat.zero_le _, hw x hx⟩); omega
  have HNn := hidden hn
  rw [hn]
  clear hR hM hs hw hin hall hL h hn
  go_enter Try.func83, Try.ntmps83
  go_wp2_with fail
  go_loopw [4, 5, 10] (fun nx c i wr => ∃ k q : Nat, k ≤ n ∧ q ≤ Nb ∧ i = .int .i64 k ∧ nx = .int .i64 q ∧ c = .int .u64 (cr (64 * q)).toNat ∧ Hid ((∃ N', Ad B T ah wd mo v0 v1 at_ vS V H N Nb L S w q N' wr) ∧ (∀ x ∈ ws.drop k, q ≤ x) ∧ ∀ p, 64 * q ≤ p → g p = true → p / 64 ∈ ws.drop k)) (fun _ _ i _ => n - (intOf i).toNat)
  case atStart => exact ⟨0, 0, Nat.zero_le _, Nat.zero_le _, rfl, rfl, by rw [Nat.mul_zero, HR.out.1]; rfl, ⟨N, HS.out⟩, fun x _ => Nat.zero_le _, fun p _ hp => HALL.out p hp⟩
  case round =>
    obtain ⟨k, q, hk, hq, rfl, rfl, rfl, hst⟩ := hrel
    clear HS
    by_cases hlt : k < n
    · obtain ⟨x, hx⟩ : ∃ x, ws[k]? = some x := ⟨ws[k]'(by rw [HNn.out]; exact hlt), List.getElem?_eq_getElem _⟩
      have hmem : x ∈ ws := List.mem_of_getElem? hx
      have hdrop : ws.drop k = x :: ws.drop (k + 1) := by
        obtain ⟨h1, h2⟩ := List.getElem?_eq_some_iff.1 hx
        rw [List.drop_eq_getElem_cons h1, h2]
      obtain ⟨⟨N0, s1⟩, s2, s3⟩ := hst.out
      have hqx : q ≤ x := s2 x (by rw [hdrop]; simp)
      have hxb : x < Nb := HW.out x hmem
      have HGZ := hidden (show ∀ p, 64 * q ≤ p → p < 64 * x → g p = false from fun p h1 h2 => by
        cases hgp : g p with
        | false => rfl
        | true =>
          have hm := s3 p h1 hgp
          rw [hdrop] at hm
          rcases List.mem_cons.1 hm with hm | hm
          · omega
          · have := sorted_next HSO.out hx _ hm
            omega)
      have HNX := hidden (show (∀ y ∈ ws.drop (k + 1), x + 1 ≤ y) ∧ ∀ p, 64 * (x + 1) ≤ p → g p = true → p / 64 ∈ ws.drop (k + 1) from ⟨sorted_next HSO.out hx, fun p h1 h2 => by
        have hm := s3 p (by omega) h2
        rw [hdrop] at hm
        rcases List.mem_cons.1 hm with hm | hm
        · omega
        · exact hm⟩)
      obtain ⟨b, o, rfl, hnc, hb, m1, m2⟩ := (HM.out.kpt HT.out s1.kp).open_ HNn.out hx
      obtain ⟨m, hm⟩ : ∃ m, Gl.word g2 x = m := ⟨_, rfl⟩
      rw [hm] at m2
      have HMG := hidden (show Gl.word g x = m by rw [← hm]; exact word_congr (fun p hp => (HIN.out x hmem p hp).symm))
      have HAD := hidden (s1.later (bel_alloc (Below.refl _ _) (.cells #[.int .i64 x, .int .u64 m] 113)))
      have HM1 := hidden (show Mk1 (wr.alloc (.cells #[.int .i64 x, .int .u64 m] 113)) wr.heap.size x m from World.alloc_heap_new wr _)
      have HQ := hidden (show T < wr.heap.size by have := HT.out.lt; have := s1.kp.size; omega)
      clear hst s1 s2 s3 hm hdrop hmem
      go_wp2_with fail
      generalize World.alloc wr _ = W1 at HAD HM1 ⊢
      obtain ⟨Q, hQ⟩ : ∃ Q, wr.heap.size = Q := ⟨_, rfl⟩
      rw [hQ] at HM1 HQ ⊢
      clear hQ
      go_loopg [17] (x + 1) (fun j _ wi => Hid (∃ N', Ad B T ah wd mo v0 v1 at_ vS V H N Nb L S w q N' wi ∧ Mk1 wi Q x m ∧ x + 1 ≤ N' + j))
      case atStart => exact ⟨N0, HAD.out, HM1.out, by omega⟩
      case round =>
        clear HAD HM1
        obtain ⟨N', had, hm1, b8⟩ := hrel.out
        clear hrel
        obtain ⟨hk, vI', vT', X, b1, b2, b3, b4, b5, b6, b7⟩ := had
        obtain ⟨aI, cI, rfl, hcI, _⟩ := own_shape b1.ids
        have HB := hidden b1
        have HK := hidden hk
        have HX2 := hidden b6
        have HX3 := hidden b7
        have HM1 := hidden hm1
        have t5 := b1.c.cells.2.2.2.2.2.1
        obtain ⟨y0, y1⟩ := hm1.cells
        clear b1 b6 b7 hm1 hk
        by_cases hlen : N' ≤ x
        · have hd : decide ((N' : Int) ≤ x) = true := by simpa using hlen
          go_wp2_with fail
          go_quiet (fail)
          have HB2 := hidden (HB.out.drewN nq)
          have HK2 := hidden (HK.out.drewN nq)
          have HM2 : Hid (Mk1 (wr.drewN nq) Q x m) := HM1.out
          clear HB HK HM1 t5 y0 y1
          generalize World.drewN wr nq = W2 at HB2 HK2 HM2 ⊢
          have t5 := HB2.out.c.cells.2.2.2.2.2.1
          have HBL := hidden (show B ≤ W2.heap.size by have := HB2.out.lt; have := HB2.out.lo; omega)
          go_wp2_with (at_builtin; go_must (refine wpList_app rfl (.tmp 26) (.tmp 27) 84 93 rfl (.int .u64 0) 1 8 Try.underlying84 Try.infoU64 rfl (by decide) B W2.heap.size (.slice aI N' cI) N' (wcells (mix V H q) N') [.int .u64 18446744073709551615] rfl rfl (owns_later HB2.out.ids (by (with_reducible (repeat (first | exact Below.refl _ _ | exact Below.refl _ _ | apply bel_alloc | apply bel_put | apply bel_set | apply Below.drew | apply below_drewN | assumption | omega))))) rfl (fun u hu => by rw [List.mem_singleton.1 hu]; rfl) (cells_new W2 _ _ rfl _) (by omega) (by decide) (Nat.le_trans HBL.out (by simp)) ?_; intro g9 c9 w9 hown9 hg9 hl9; have HC9 := hidden (TbC.grown (HB2.out.c.alloc _) (owns_later HB2.out.ids (by (with_reducible (repeat (first | exact Below.refl _ _ | exact Below.refl _ _ | apply bel_alloc | apply bel_put | apply bel_set | apply Below.drew | apply below_drewN | assumption | omega))))) (by decide) hg9); have tf9 : w9.frozen? ⟨T, 5, none⟩ = false := HC9.out.thaw 5; have tc9 : w9.cell? ⟨T, 5, none⟩ = some (.slice aI N' cI) := HC9.out.cells.2.2.2.2.2.1))
          have HA2 := hidden (Ad.grow (Nb := Nb) (HK2.out.alloc (.cells #[.int .u64 18446744073709551615] 93)) (HB2.out.alloc (.cells #[.int .u64 18446744073709551615] 93)) b5 HX2.out HX3.out b2 (by omega) b4 hown9 hg9 hl9)
          have HM3 := hidden (show Mk1 (w9.setCell ⟨T, 5, none⟩ (.slice (some ⟨g9, 0, none⟩) (N' + 1) c9)) Q x m from by
            have k0 : KpT B T W2 (w9.setCell ⟨T, 5, none⟩ (.slice (some ⟨g9, 0, none⟩) (N' + 1) c9)) := ((KpT.of_below (W := W2) (bel_alloc (Below.refl _ _) _)).trans (kpt_row (owns_later HB2.out.ids (bel_alloc (Below.refl _ _) _)) (Or.inl rfl) hg9)).setT 5 _
            exact HM2.out.kpt HB2.out.c k0)
          go_roundg (gk - 1)
          case rel => exact ⟨N' + 1, HA2.out, HM3.out, by omega⟩
          case measure => omega
        · have hd : decide ((N' : Int) ≤ x) = false := by simpa using hlen
          go_wp2_with fail
          go_quiet (fail)
          have HB2 := hidden (HB.out.drewN nq)
          have HK2 := hidden (HK.out.drewN nq)
          have HM2 : Hid (Mk1 (wr.drewN nq) Q x m) := HM1.out
          clear HB HK HM1 t5 y0 y1
          generalize World.drewN wr nq = W2 at HB2 HK2 HM2 ⊢
          obtain ⟨y0, y1⟩ := HM2.out.cells
          go_wp2_with fail
          refine (bpass_any HR.out q x hqx (by omega) HGZ.out HB2.out (by omega) (by rw [List.length_append]; have := HL.out; omega)).mono ?_
          rintro e w3 ⟨rfl, hps⟩
          have HM3 := hidden (HM2.out.kpt HB2.out.c hps.kp)
          have HAP := hidden (Ad.pass (Nb := Nb) (N := N) hqx HK2.out b5 HX2.out HX3.out b2 b3 (by omega) hps)
          clear hps HB2 HK2 HM2 y0 y1
          obtain ⟨hk3, vI3, vT3, X3, e1, e2, e3, e4, e5, e6, e7⟩ := HAP.out
          have HB3 := hidden e1
          have HK3 := hidden hk3
          have HX4 := hidden e6
          have HX5 := hidden e7
          clear HAP e1 hk3 e6 e7
          obtain ⟨y0, y1⟩ := HM3.out.cells
          go_wp2_with fail
          refine (bword_mix HR.out x HB3.out (by omega) m HMG.out (by omega) (by rw [List.length_append]; have := HL.out; omega)).mono ?_
          rintro e w4 ⟨rfl, hk4, vT4, Y, f1, f2, f3, f4⟩
          have HM4 := hidden (HM3.out.kpt HB3.out.c hk4)
          have HA4 := hidden (Ad.more (Nb := Nb) (N := N) HK3.out e5 HX4.out HX5.out e2 e3 (by omega) hk4 f1 f2 f3 f4)
          clear hk4 f1 f2 f3 f4 HB3 HK3 HM3 y0 y1
          obtain ⟨y0, y1⟩ := HM4.out.cells
          go_wp2_with fail
          go_roundw
          case rel => exact ⟨k + 1, x + 1, by omega, by omega, by go_num, by go_num, rfl, ⟨N', HA4.out⟩, HNX.out.1, HNX.out.2⟩
          case measure => simp [intOf]; omega
    · obtain rfl : k = n := by omega
      obtain ⟨⟨N0, hk0, vI0, vT0, X0, e1, e2, e3, e4, e5, e6, e7⟩, s2, s3⟩ := hst.out
      have hdr : ws.drop k = [] := List.drop_of_length_le (by rw [HNn.out]; omega)
      have HGZ := hidden (show ∀ p, 64 * q ≤ p → g p = false from fun p h1 => by
        cases hgp : g p with
        | false => rfl
        | true => have h2 := s3 p h1 hgp; rw [hdr] at h2; cases h2)
      obtain ⟨aI, cI, rfl, hcI, _⟩ := own_shape e1.ids
      have HB := hidden e1
      have HK := hidden hk0
      have HX2 := hidden e6
      have HX3 := hidden e7
      have t5 := e1.c.cells.2.2.2.2.2.1
      clear e1 hk0 e6 e7 hst s2 s3 hdr
      go_wp2_with fail
      refine (bpass_any HR.out q N0 e4 (Nat.le_refl _) (fun p h1 _ => HGZ.out p h1) HB.out (by omega) (by rw [List.length_append]; have := HL.out; omega)).mono ?_
      rintro e w3 ⟨rfl, hps⟩
      have HAP := hidden (Ad.pass (Nb := Nb) (N := N) e4 HK.out e5 HX2.out HX3.out e2 e3 (Nat.le_refl _) hps)
      have HME := hidden (mix_end HR.out e4 HB.out.top HGZ.out)
      clear hps HB HK t5
      go_wp2_with fail
      go_end0
      obtain ⟨hk3, vI3, vT3, X3, f1, f2, f3, f4, f5, f6, f7⟩ := HAP.out
      rw [HME.out] at f1 f7
      exact ⟨⟨_, rfl⟩, hk3, vI3, vT3, N0, X3, f1, f2, f3, f5, f6, f7⟩

end Go.Proofs.Ytmbalnjobcgpkaa
