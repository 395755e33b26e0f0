
/-
  What the program's begin leaves: the table where nothing is left of the other row; conditions: where the table lies.
-/
import Derived.Test.YtdjdiaadflggfaaBState
namespace Go.Proofs.Ytdjdiaadflggfaa
open Go.RowKit Go.Proofs.Ytdjdiaadflggfaa.Ln Go.Proofs.Ytdjdiaadflggfaa.Ol

def fullB : Bs := fun _ => true
set_option maxHeartbeats 4000000 in
theorem bbegin_any {B T : Nat} {ah wd mo : Int} {v0 : Value} {a1 : Option Addr} {m c1 : Nat} {at_ : Nat} {vI vT vS : Value} {V : Bs} {N : Nat} {L : List Tn} {S : List Sp} {w : World} (h : Tb B T ah wd mo v0 (.slice a1 m c1) at_ vI vT vS V N L S w) :
    Calls Try.prog 24 #[.pointer (some ⟨T, 0, none⟩)] w fun e w' => (∃ v, e = .returned v) ∧ KpT B T w w' ∧ ∃ vI' vT' vS', Tb B T ah wd mo v0 (.slice a1 m c1) m vI' vT' vS' fullB 0 [] [(m, .slice none 0 0, fullB, 0)] w' := by
  obtain ⟨aI, cI, rfl, hcI, haI⟩ := own_shape h.ids
  obtain ⟨aT, cT, rfl, hcT, haT⟩ := own_shape h.trn
  obtain ⟨aS, cS, rfl, hcS, haS⟩ := own_shape h.stp
  have HT := hidden h
  obtain ⟨t0, t1, t2, t3, t4, t5, t6, t7, t8⟩ := h.c.cells
  have tf : ∀ i, w.frozen? ⟨T, i, none⟩ = false := h.c.thaw
  clear h t0 t2 t3 t7 t8
  go_enter Try.func24, Try.ntmps24
  go_wp2_with fail
  have HB0 := hidden (show Rw B (.slice aI 0 cI) (.slice aT 0 cT) (.slice aS 0 cS) fullB 0 [] [] w by
    obtain ⟨x1, y1, _, z1⟩ := HT.out.rw_.cutI (V' := fullB) (fun _ => rfl)
    rw [y1 aI cI rfl] at z1
    obtain ⟨x2, y2, z2⟩ := z1.cutT (Nat.zero_le L.length)
    rw [y2 aT cT rfl] at z2
    obtain ⟨x3, y3, z3⟩ := z2.cutS (Nat.zero_le S.length)
    rw [y3 aS cS rfl] at z3
    exact z3)
  have HC1 := hidden ((((HT.out.c.set4 (.int .i64 m)).set5 (.slice aI 0 cI)).set6 (.slice aT 0 cT)).drew)
  have HR1 := hidden ((((HB0.out.setT HT.out.c 4 (.int .i64 m)).setT (HT.out.c.set4 (.int .i64 m)) 5 (.slice aI 0 cI)).setT ((HT.out.c.set4 (.int .i64 m)).set5 (.slice aI 0 cI)) 6 (.slice aT 0 cT)).drew)
  have HK1 := hidden ((((KpT.refl (B := B) (T := T) (W := w)).setT 4 (.int .i64 m)).setT 5 (.slice aI 0 cI)).setT 6 (.slice aT 0 cT)).drew
  go_region
  clear t1 t4 t5 t6 tf HB0
  generalize World.drew _ = W2 at HC1 HR1 HK1 ⊢
  obtain ⟨t0, t1, t2, t3, t4, t5, t6, t7, t8⟩ := HC1.out.cells
  have q8 : ∀ o, (W2.alloc o).cell? ⟨T, 8, none⟩ = some (.slice aS S.length cS) := fun o => (HC1.out.alloc o).cells.2.2.2.2.2.2.2.2
  have q4 : ∀ o, (W2.alloc o).cell? ⟨T, 4, none⟩ = some (.int .i64 m) := fun o => (HC1.out.alloc o).cells.2.2.2.2.1
  have HBs := hidden (show B ≤ W2.heap.size by have := HC1.out.lt; have := HT.out.lo; omega)
  have HBL := hidden (Below.refl W2.heap.size W2)
  clear t0 t1 t2 t3 t5 t6 t7
  go_wp2_with fail
  go_region_law (refine step_app rfl (.tmp 31) (.tmp 37) 46 56 rfl (.agg #[.int .i64 0, .slice none 0 0]) 2 32 Try.underlying46 Try.infoStop rfl (by decide) B W2.heap.size (.slice aS 0 cS) 0 [] (scells [(m, .slice none 0 0, fullB, 0)]) (by first | rfl | simp [Act.eval, Act.put]) (by first | rfl | simp [Act.eval, Act.put]) (owns_later HR1.out.stp (by (with_reducible (repeat (first | exact HBL.out | exact Below.refl _ _ | apply bel_alloc | apply bel_put | apply bel_set | apply Below.drew | apply below_drewN | assumption | omega))))) rfl (scells_one _ rfl) ?_ (by decide) (by decide) (Nat.le_trans HBs.out (by simp)) ?_; (first | exact cells_new W2 _ _ rfl _ | exact cells_new _ _ _ (by simp) _); intro g9 c9 w9 hown9 hg9 hl9; have HC9 := hidden (TbC.grown (HC1.out.later (by (with_reducible (repeat (first | exact HBL.out | exact Below.refl _ _ | apply bel_alloc | apply bel_put | apply bel_set | apply Below.drew | apply below_drewN | assumption | omega))))) (owns_later HR1.out.stp (by (with_reducible (repeat (first | exact HBL.out | exact Below.refl _ _ | apply bel_alloc | apply bel_put | apply bel_set | apply Below.drew | apply below_drewN | assumption | omega))))) (by decide) hg9); have tf9 : w9.frozen? ⟨T, 8, none⟩ = false := HC9.out.thaw 8; have tc9 : w9.cell? ⟨T, 8, none⟩ = some (.slice aS S.length cS) := HC9.out.cells.2.2.2.2.2.2.2.2)
  all_goals
    have HR9 := hidden (((HR1.out.later (by (with_reducible (repeat (first | exact HBL.out | exact Below.refl _ _ | apply bel_alloc | apply bel_put | apply bel_set | apply Below.drew | apply below_drewN | assumption | omega))))).stop (t := (m, .slice none 0 0, fullB, 0)) hown9 hg9 ⟨World.ownsRow_nil _ _ _ _, Or.inl rfl, fun _ _ => rfl⟩).setT HC9.out 8 (.slice (some ⟨g9, 0, none⟩) (0 + 1) c9))
    have HC10 := hidden (HC9.out.set8 (.slice (some ⟨g9, 0, none⟩) (0 + 1) c9))
    have HK9 := hidden ((HK1.out.trans ((KpT.of_below (B := B) (T := T) (W := W2) (by (with_reducible (repeat (first | exact HBL.out | exact Below.refl _ _ | apply bel_alloc | apply bel_put | apply bel_set | apply Below.drew | apply below_drewN | assumption | omega))))).trans (kpt_row (owns_later HR1.out.stp (by (with_reducible (repeat (first | exact HBL.out | exact Below.refl _ _ | apply bel_alloc | apply bel_put | apply bel_set | apply Below.drew | apply below_drewN | assumption | omega))))) (Or.inr (Or.inr rfl)) hg9))).setT 8 (.slice (some ⟨g9, 0, none⟩) (0 + 1) c9))
    have HLO := hidden HT.out.lo
    clear HC9 tf9 tc9 hown9 hg9 hl9 HC1 HR1 HK1 HT
    go_wp2_with fail
    go_end0
    exact ⟨⟨_, rfl⟩, HK9.out, _, _, _, HR9.out.tb HC10.out HLO.out⟩

end Go.Proofs.Ytdjdiaadflggfaa
