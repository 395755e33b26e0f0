
/-
  What the program's word turns: one word of the bits, and what is noted of it; conditions: where the table lies, that there is such a word.
-/
import Derived.Test.YtdjdiaadflggfaaBApp
import Derived.Laws.Externs
import Derived.Laws.BitsAllLaws
namespace Go.Proofs.Ytdjdiaadflggfaa
open Go.RowKit Go.Proofs.Ytdjdiaadflggfaa.Ln Go.Proofs.Ytdjdiaadflggfaa.Ol

theorem add64_at (x y c s o : Nat) (hc : c ≤ 1) (hs : (x + y + c) % 18446744073709551616 = s) (ho : (x + y + c) / 18446744073709551616 = o) (w : World) :
    (callFunc 40 #[.int .u64 x, .int .u64 y, .int .u64 c]).run Try.prog w = .ok (.value (.tuple #[.int .u64 s, .int .u64 o])) w := by
  subst hs ho
  rw [run_callFunc_extern Try.func40 (by kernel_rfl) (by kernel_rfl) (by kernel_rfl) (e := add64Entry) (by kernel_rfl), run_add64 x y c (by omega) (by omega) (by omega) (by omega)]
  simp only [Result.andThen]
  congr 5 <;> omega

set_option maxHeartbeats 1000000 in
theorem bword_any {B T : Nat} {ah wd mo : Int} {v0 v1 : Value} {at_ : Nat} {vI vT vS : Value} {V : Bs} {N : Nat} {L : List Tn} {S : List Sp} {w : World} (h : Tb B T ah wd mo v0 v1 at_ vI vT vS V N L S w) (j : Nat) (hj : j < N) (mk cin : Nat) (hmk : mk < 18446744073709551616) (hc : cin ≤ 1) (H : Bs) (co : Nat)
    (hH : ((Gl.word V j + (Gl.word V j &&& mk) + cin) % 18446744073709551616) ||| (Gl.word V j &&& (18446744073709551615 - mk)) = Gl.word H j) (hco : (Gl.word V j + (Gl.word V j &&& mk) + cin) / 18446744073709551616 = co)
    (hN : N ≤ 4194304) (hL : L.length ≤ 67108864) :
    Calls Try.prog 37 #[.pointer (some ⟨T, 0, none⟩), .int .i64 j, .int .u64 mk, .int .u64 cin] w fun e w' => e = .returned (.int .u64 co) ∧ KpT B T w w' ∧ ∃ vT' X, Tb B T ah wd mo v0 v1 at_ vI vT' vS (setw V j H) N (L ++ X) S w' ∧ X.length ≤ 1 ∧ (∀ e ∈ X, e.1 = at_ ∧ e.2.1 = j) ∧ undo X (setw V j H) = V := by
  obtain ⟨a, ha⟩ : ∃ a, Gl.word V j = a := ⟨_, rfl⟩
  have hal : a < 18446744073709551616 := by rw [← ha]; exact Gl.word_lt V j
  rw [ha] at hH hco
  obtain ⟨x, hx⟩ : ∃ x, a &&& mk = x := ⟨_, rfl⟩
  obtain ⟨y, hy⟩ : ∃ y, a &&& (18446744073709551615 - mk) = y := ⟨_, rfl⟩
  obtain ⟨nw, hnw⟩ : ∃ nw, Gl.word H j = nw := ⟨_, rfl⟩
  rw [hx] at hH hco
  rw [hy, hnw] at hH
  obtain ⟨s, hs⟩ : ∃ s, (a + x + cin) % 18446744073709551616 = s := ⟨_, rfl⟩
  rw [hs] at hH
  have hxl : x < 18446744073709551616 := by rw [← hx]; exact Nat.lt_of_le_of_lt Nat.and_le_left hal
  have hyl : y < 18446744073709551616 := by rw [← hy]; exact Nat.lt_of_le_of_lt Nat.and_le_left hal
  have hsl : s < 18446744073709551616 := by rw [← hs]; exact Nat.mod_lt _ (by decide)
  have hand : bits BinOp.and IntKind.u64 (a : Int) (mk : Int) = (x : Int) := by rw [u64_and_nat a mk hal hmk, hx]
  have hnot : bits BinOp.andNot IntKind.u64 (a : Int) (mk : Int) = (y : Int) := by rw [u64_andNot_nat a mk hal hmk, hy]
  have hor : bits BinOp.or IntKind.u64 (s : Int) (y : Int) = (nw : Int) := by rw [u64_or_nat s y hsl hyl, hH]
  have hadd := add64_at a x cin s co hc hs hco
  obtain ⟨g, cap, hvI, _, hglt⟩ := h.ids.form (by omega)
  subst hvI
  have HT := hidden h
  have HC := hidden h.c
  have HA := hidden ha
  have HNW := hidden hnw
  have HSW := hidden hH
  have hcap := (own_shape h.ids)
  obtain ⟨_, _, hsh, hcap, _⟩ := hcap
  cases hsh
  obtain ⟨t0, t1, t2, t3, t4, t5, t6, t7, t8⟩ := h.c.cells
  have tf : ∀ i, w.frozen? ⟨T, i, none⟩ = false := h.c.thaw
  have g0 : w.cell? ⟨g, j, none⟩ = some (.int .u64 a) := by rw [h.ids.cellAt j (by omega), wcells_at V hj, ha]
  have gf : w.frozen? ⟨g, j, none⟩ = false := h.ids.frozenAt j
  have HN := hidden hN
  have HL := hidden hL
  have HB0 := hidden (Below.refl w.heap.size w)
  clear h hH hco hx hy hs ha hnw hN hL t0 t1 t2 t3 t7 t8 hmk hal hxl hyl hsl
  go_enter Try.func37, Try.ntmps37
  by_cases hne : nw = a
  · subst hne
    go_wp2_with (simp only [hadd])
    go_ret
    refine ⟨rfl, KpT.refl, vT, [], ?_, by simp, by simp, ?_⟩
    · rw [setw_same (by rw [HNW.out, HA.out]), List.append_nil]; exact HT.out
    · exact setw_same (by rw [HNW.out, HA.out])
  · have hb : ((nw : Int) != (a : Int)) = true := by simp; omega
    have HLL := hidden (show L.length < 1073741824 by have := HL.out; omega)
    have HBs := hidden (show B ≤ w.heap.size by have := HT.out.lt; have := HT.out.lo; omega)
    go_wp2_with (simp only [hadd])
    clear hand hnot hor hadd
    have q6 : ∀ o, (w.alloc o).cell? ⟨T, 6, none⟩ = some vT := fun o => (HC.out.alloc o).cells.2.2.2.2.2.2.1
    have q4 : ∀ o, (w.alloc o).cell? ⟨T, 4, none⟩ = some (Z at_) := fun o => (HC.out.alloc o).cells.2.2.2.2.1
    go_region_law (refine step_app rfl (.tmp 41) (.tmp 49) 45 58 rfl (.agg #[.int .i64 0, .int .i64 0, .int .u64 0]) 3 24 Try.underlying45 Try.infoTurn rfl (by decide) B w.heap.size vT L.length (tcells L) (tcells [(at_, j, V)]) (by simp [Act.eval]) (by simp [Act.eval]) (owns_later HT.out.trn (by (with_reducible (repeat (first | exact HB0.out | exact Below.refl _ _ | apply bel_alloc | apply bel_put | apply bel_set | apply Below.drew | apply below_drewN | assumption | omega))))) rfl (tcells_one _) ?_ HLL.out (by decide) (Nat.le_trans HBs.out (by simp)) ?_; (first | exact cells_new w _ _ rfl _ | (simp only [tcells, HA.out]; exact cells_new _ _ _ (by simp) _)); intro g9 c9 w9 hown9 hg9 hl9; have HC9 := hidden (TbC.grown (HC.out.later (by (with_reducible (repeat (first | exact HB0.out | exact Below.refl _ _ | apply bel_alloc | apply bel_put | apply bel_set | apply Below.drew | apply below_drewN | assumption | omega))))) (owns_later HT.out.trn (by (with_reducible (repeat (first | exact HB0.out | exact Below.refl _ _ | apply bel_alloc | apply bel_put | apply bel_set | apply Below.drew | apply below_drewN | assumption | omega))))) (by decide) hg9); have tf9 : w9.frozen? ⟨T, 6, none⟩ = false := HC9.out.thaw 6; have tc9 : w9.cell? ⟨T, 6, none⟩ = some vT := HC9.out.cells.2.2.2.2.2.2.1)
    all_goals
      have ho : w9.ownsRow B 58 3 (.slice (some ⟨g9, 0, none⟩) (L.length + 1) c9) (L ++ [((at_, j, V) : Tn)]).length (tcells (L ++ [((at_, j, V) : Tn)])) := by rw [List.length_append, tcells_app]; exact hown9
      have HR3 := hidden (((HT.out.rw_.later (by (with_reducible (repeat (first | exact HB0.out | exact Below.refl _ _ | apply bel_alloc | apply bel_put | apply bel_set | apply Below.drew | apply below_drewN | assumption | omega))))).turn ho hg9).setT HC9.out 6 (.slice (some ⟨g9, 0, none⟩) (L.length + 1) c9))
      have HC3 := hidden (HC9.out.set6 (.slice (some ⟨g9, 0, none⟩) (L.length + 1) c9))
      have HK3 := hidden (((KpT.of_below (B := B) (T := T) (W := w) (by (with_reducible (repeat (first | exact HB0.out | exact Below.refl _ _ | apply bel_alloc | apply bel_put | apply bel_set | apply Below.drew | apply below_drewN | assumption | omega))))).trans (kpt_row (owns_later HT.out.trn (by (with_reducible (repeat (first | exact HB0.out | exact Below.refl _ _ | apply bel_alloc | apply bel_put | apply bel_set | apply Below.drew | apply below_drewN | assumption | omega))))) (Or.inr (Or.inl rfl)) hg9)).setT 6 (.slice (some ⟨g9, 0, none⟩) (L.length + 1) c9))
      clear ho hown9 hg9 hl9 HC9 tf9 tc9 q6 q4 t4 t5 t6 tf g0 gf HB0 HC
      generalize World.setCell w9 _ _ = W2 at HR3 HC3 HK3 ⊢
      obtain ⟨t0, t1, t2, t3, t4, t5, t6, t7, t8⟩ := HC3.out.cells
      have gf : W2.frozen? ⟨g, j, none⟩ = false := HR3.out.ids.frozenAt j
      have gc : W2.cell? ⟨g, j, none⟩ = some (.int .u64 a) := by rw [HR3.out.ids.cellAt j (by omega), wcells_at V hj, HA.out]
      clear t0 t1 t2 t3 t4 t6 t7 t8
      go_wp2_with fail
      go_ret
      obtain ⟨k1, k2⟩ := HR3.out.word hj H
      rw [HNW.out] at k1 k2
      refine ⟨rfl, HK3.out.trans (kpt_row HR3.out.ids (Or.inl rfl) k2), _, [(at_, j, V)], k1.tb (HC3.out.other (fun e => ?_)) HT.out.lo, Nat.le_refl _, ?_, setw_back V j H⟩
      · exact own_notT HC3.out HR3.out.ids (by decide) (by rw [e]; rfl)
      · intro e he; rw [List.mem_singleton.1 he]; exact ⟨rfl, rfl⟩

end Go.Proofs.Ytdjdiaadflggfaa
