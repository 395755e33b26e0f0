
/-
  What the program's back leaves: the table without the first line of the rest; conditions: where it stands.
-/
import Derived.Test.YtmbalnjobcgpkaaBState
import Derived.Deep.Cut
import Derived.Deep.CutRange
namespace Go.Proofs.Ytmbalnjobcgpkaa
open Go.RowKit Go.Proofs.Ytmbalnjobcgpkaa.Ln Go.Proofs.Ytmbalnjobcgpkaa.Ol

def fullB : Bs := fun _ => true
set_option maxHeartbeats 4000000 in
theorem bbegin_any {B T : Nat} {ah wd mo : Int} {v0 : Value} {a1 : Option Addr} {m c1 : Nat} {at_ : Nat} {vI vT vS : Value} {V : Bs} {N : Nat} {L : List Tn} {S : List Sp} {w : World} (h : Tb B T ah wd mo v0 (.slice a1 m c1) at_ vI vT vS V N L S w) :
    Calls Try.prog 72 #[.pointer (some ⟨T, 0, none⟩)] w fun e w' => (∃ v, e = .returned v) ∧ KpT B T w w' ∧ ∃ vI' vT' vS', Tb B T ah wd mo v0 (.slice a1 m c1) m vI' vT' vS' fullB 0 [] [(m, .slice none 0 0, fullB, 0)] w' := by
  obtain ⟨aI, cI, rfl, hcI, haI⟩ := own_shape h.ids
  obtain ⟨aT, cT, rfl, hcT, haT⟩ := own_shape h.trn
  obtain ⟨aS, cS, rfl, hcS, haS⟩ := own_shape h.stp
  have HT := hidden h
  obtain ⟨t0, t1, t2, t3, t4, t5, t6, t7, t8⟩ := h.c.cells
  have tf : ∀ i, w.frozen? ⟨T, i, none⟩ = false := h.c.thaw
  clear h t0 t2 t3 t7 t8
  go_enter Try.func72, Try.ntmps72
  go_wp2_with fail
  have HB0 := hidden (show RwT B (.slice aI 0 cI) (.slice aT 0 cT) (.slice aS 0 cS) fullB 0 [] [] w by
    obtain ⟨x1, y1, _, z1⟩ := HT.out.rw_.cutI (V' := fullB) (fun _ => rfl)
    rw [y1 aI cI rfl] at z1
    obtain ⟨x2, y2, z2⟩ := z1.cutT (Nat.zero_le L.length)
    rw [y2 aT cT rfl] at z2
    obtain ⟨x3, y3, z3⟩ := z2.cutS (Nat.zero_le S.length)
    rw [y3 aS cS rfl] at z3
    exact z3)
  have HC1 := hidden ((((HT.out.c.set4 (.int .i64 m)).set5 (.slice aI 0 cI)).set6 (.slice aT 0 cT)).drew)
  have HR1 := hidden ((((HB0.out.setT HT.out.c 4 (.int .i64 m)).setT (HT.out.c.set4 (.int .i64 m)) 5 (.slice aI 0 cI)).setT ((HT.out.c.set4 (.int .i64 m)).set5 (.slice aI 0 cI)) 6 (.slice aT 0 cT)).drew)
  have HK1 := hidden ((((KpT.refl (B := B) (T := T) (W := w)).setT 4 (.int .i64 m)).setT 5 (.slice aI 0 cI)).setT 6 (.slice aT 0 cT)).drew
  go_region
  clear t1 t4 t5 t6 tf HB0
  generalize World.drew _ = W2 at HC1 HR1 HK1 ⊢
  obtain ⟨t0, t1, t2, t3, t4, t5, t6, t7, t8⟩ := HC1.out.cells
  have q8 : ∀ o, (W2.alloc o).cell? ⟨T, 8, none⟩ = some (.slice aS S.length cS) := fun o => (HC1.out.alloc o).cells.2.2.2.2.2.2.2.2
  have q4 : ∀ o, (W2.alloc o).cell? ⟨T, 4, none⟩ = some (.int .i64 m) := fun o => (HC1.out.alloc o).cells.2.2.2.2.1
  have HBs := hidden (show B ≤ W2.heap.size by have := HC1.out.lt; have := HT.out.lo; omega)
  have HBL := hidden (Below.refl W2.heap.size W2)
  clear t0 t1 t2 t3 t5 t6 t7
  go_wp2_with fail
  go_region_law (refine step_app rfl (.tmp 31) (.tmp 37) 86 95 rfl (.agg #[.int .i64 0, .slice none 0 0]) 2 32 Try.underlying86 Try.infoStop rfl (by decide) B W2.heap.size (.slice aS 0 cS) 0 [] (scells [(m, .slice none 0 0, fullB, 0)]) (by first | rfl | simp [Act.eval, Act.put]) (by first | rfl | simp [Act.eval, Act.put]) (owns_later HR1.out.stp (by (with_reducible (repeat (first | exact HBL.out | exact Below.refl _ _ | apply bel_alloc | apply bel_put | apply bel_set | apply Below.drew | apply below_drewN | assumption | omega))))) rfl (scells_one _ rfl) ?_ (by decide) (by decide) (Nat.le_trans HBs.out (by simp)) ?_; (first | exact cells_new W2 _ _ rfl _ | exact cells_new _ _ _ (by simp) _); intro g9 c9 w9 hown9 hg9 hl9; have HC9 := hidden (TbC.grown (HC1.out.later (by (with_reducible (repeat (first | exact HBL.out | exact Below.refl _ _ | apply bel_alloc | apply bel_put | apply bel_set | apply Below.drew | apply below_drewN | assumption | omega))))) (owns_later HR1.out.stp (by (with_reducible (repeat (first | exact HBL.out | exact Below.refl _ _ | apply bel_alloc | apply bel_put | apply bel_set | apply Below.drew | apply below_drewN | assumption | omega))))) (by decide) hg9); have tf9 : w9.frozen? ⟨T, 8, none⟩ = false := HC9.out.thaw 8; have tc9 : w9.cell? ⟨T, 8, none⟩ = some (.slice aS S.length cS) := HC9.out.cells.2.2.2.2.2.2.2.2)
  all_goals
    have HR9 := hidden (((HR1.out.later (by (with_reducible (repeat (first | exact HBL.out | exact Below.refl _ _ | apply bel_alloc | apply bel_put | apply bel_set | apply Below.drew | apply below_drewN | assumption | omega))))).stop (t := (m, .slice none 0 0, fullB, 0)) hown9 hg9 ⟨World.ownsRow_nil _ _ _ _, Or.inl rfl, fun _ _ => rfl⟩).setT HC9.out 8 (.slice (some ⟨g9, 0, none⟩) (0 + 1) c9))
    have HC10 := hidden (HC9.out.set8 (.slice (some ⟨g9, 0, none⟩) (0 + 1) c9))
    have HK9 := hidden ((HK1.out.trans ((KpT.of_below (B := B) (T := T) (W := W2) (by (with_reducible (repeat (first | exact HBL.out | exact Below.refl _ _ | apply bel_alloc | apply bel_put | apply bel_set | apply Below.drew | apply below_drewN | assumption | omega))))).trans (kpt_row (owns_later HR1.out.stp (by (with_reducible (repeat (first | exact HBL.out | exact Below.refl _ _ | apply bel_alloc | apply bel_put | apply bel_set | apply Below.drew | apply below_drewN | assumption | omega))))) (Or.inr (Or.inr rfl)) hg9))).setT 8 (.slice (some ⟨g9, 0, none⟩) (0 + 1) c9))
    have HLO := hidden HT.out.lo
    clear HC9 tf9 tc9 hown9 hg9 hl9 HC1 HR1 HK1 HT
    go_wp2_with fail
    go_end0
    exact ⟨⟨_, rfl⟩, HK9.out, _, _, _, HR9.out.tb HC10.out HLO.out⟩

end Go.Proofs.Ytmbalnjobcgpkaa

namespace Go.Proofs.Ytmbalnjobcgpkaa
open Go.RowKit Go.Proofs.Ytmbalnjobcgpkaa.Ln Go.Proofs.Ytmbalnjobcgpkaa.Ol

/-- the table, and a copy of its words -/
structure CK (B T : Nat) (ah wd mo : Int) (v0 v1 : Value) (at_ : Nat) (vI vT vS : Value) (V : Bs) (N : Nat) (L : List Tn) (S : List Sp) (v : Value) (X0 X : World) : Prop where
  tb : Tb B T ah wd mo v0 v1 at_ vI vT vS V N L S X
  row : X.ownsRow B 93 1 v N (wcells V N)
  far : ∀ g, v.ownBlock = some g → X0.heap.size ≤ g
  ibl : ∀ g, vI.ownBlock = some g → g < X0.heap.size
  bel : Below X0.heap.size X0 X
section
variable {B T : Nat} {ah wd mo : Int} {v0 v1 : Value} {at_ : Nat} {vI vT vS : Value} {V : Bs} {N : Nat} {L : List Tn} {S : List Sp} {v : Value} {X0 X : World}
theorem CK.drew (h : CK B T ah wd mo v0 v1 at_ vI vT vS V N L S v X0 X) : CK B T ah wd mo v0 v1 at_ vI vT vS V N L S v X0 X.drew := ⟨h.tb.drew, owns_later h.row (Below.refl _ X).drew, h.far, h.ibl, h.bel.drew⟩
theorem CK.alloc (h : CK B T ah wd mo v0 v1 at_ vI vT vS V N L S v X0 X) (o : Obj) : CK B T ah wd mo v0 v1 at_ vI vT vS V N L S v X0 (X.alloc o) := ⟨h.tb.alloc o, owns_later h.row (bel_alloc (Below.refl _ X) o), h.far, h.ibl, bel_alloc h.bel o⟩
theorem CK.cells (h : CK B T ah wd mo v0 v1 at_ vI vT vS V N L S v X0 X) : X.cell? ⟨T, 8, none⟩ = some vS ∧ X.cell? ⟨T, 4, none⟩ = some (Z at_) ∧ X.cell? ⟨T, 5, none⟩ = some vI := by
  obtain ⟨t0, t1, t2, t3, t4, t5, t6, t7, t8⟩ := h.tb.c.cells
  exact ⟨t8, t4, t5⟩
theorem clone_ck (h : Tb B T ah wd mo v0 v1 at_ vI vT vS V N L S X0) (hb : Below X0.heap.size X0 X) (hN : N ≤ 17179869184) : Calls Try.prog 82 #[vI] X fun e w2 => ∃ a cp, e = .returned (.slice a N cp) ∧ CK B T ah wd mo v0 v1 at_ vI vT vS V N L S (.slice a N cp) X0 w2 := by
  refine (bclone_any B vI V N X (owns_later h.ids hb) hN (by have := h.lt; have := h.lo; have := hb.size; omega)).mono ?_
  rintro e w2 ⟨⟨v', rfl, h1, h2⟩, h3⟩
  obtain ⟨a, cp, rfl, _⟩ := own_shape h1
  have hb2 := hb.trans (h3.mono hb.size)
  exact ⟨a, cp, rfl, h.later hb2, h1, fun g hg => by have := h2 g hg; have := hb.size; omega, fun g hg => (own_kind h.ids hg).2.1, hb2⟩
/-- a stop is noted, and what was turned forgotten -/
theorem CK.done {g9 c9 : Nat} {W9 : World} (h : CK B T ah wd mo v0 v1 at_ vI vT vS V N L S v X0 X) (ho : W9.ownsRow B 95 2 (.slice (some ⟨g9, 0, none⟩) (S.length + 1) c9) (S.length + 1) (scells S ++ [Z at_, v])) (hg : X.grownBy W9 vS.ownBlock) :
    Tb B T ah wd mo v0 v1 at_ vI vT (.slice (some ⟨g9, 0, none⟩) (S.length + 1) c9) V N L (S ++ [(at_, v, V, N)]) (W9.setCell ⟨T, 8, none⟩ (.slice (some ⟨g9, 0, none⟩) (S.length + 1) c9)) ∧ KpT B T X0 (W9.setCell ⟨T, 8, none⟩ (.slice (some ⟨g9, 0, none⟩) (S.length + 1) c9)) := by
  have hc := h.tb.c.grown h.tb.stp (by decide) hg
  have ho2 : W9.ownsRow B 95 2 (.slice (some ⟨g9, 0, none⟩) (S.length + 1) c9) (S ++ [((at_, v, V, N) : Sp)]).length (scells (S ++ [((at_, v, V, N) : Sp)])) := by rw [List.length_append, scells_app]; exact ho
  have hr := (h.tb.rw_.stop (t := (at_, v, V, N)) ho2 hg ⟨h.row, by
    by_cases hv : v.ownBlock = none
    · exact Or.inl hv
    · refine Or.inr fun e => ?_
      cases hq : v.ownBlock with
      | none => exact hv hq
      | some q =>
        have h1 := h.far q hq
        have h2 := h.ibl q (e.symm.trans hq)
        omega, h.tb.top⟩).setT hc 8 (.slice (some ⟨g9, 0, none⟩) (S.length + 1) c9)
  exact ⟨hr.tb (hc.set8 _) h.tb.lo, ((KpT.of_below h.bel).trans (kpt_row h.tb.stp (Or.inr (Or.inr rfl)) hg)).setT 8 _⟩
theorem step_stop {ops : Array Oper} {o : Oper} {a : Act} {w : World} {K : Act → World → Prop} {Q : Exit → Act → World → Prop} {E : Prop} (hg : o.guard = none) (s x : Operand)
    (hop : o.op = Op.call { callee := Callee.builtin Builtin.append, args := #[s, x], argTypes := #[86, 86] }) (b : Nat) (hs : a.eval s = vS) (hx : a.eval x = .slice (some ⟨b, 0, none⟩) 1 1) (hv : v.oneCell' = true) (h : CK B T ah wd mo v0 v1 at_ vI vT vS V N L S v X0 w)
    (hcell : ∀ j u, [Z at_, v][j]? = some u → w.cell? ((⟨b, 0, none⟩ : Addr).add j) = some u) (hl : S.length < 4398046511104)
    (hK : ∀ g9 c9 w9, w9.frozen? ⟨T, 8, none⟩ = false → w9.cell? ⟨T, 8, none⟩ = some vS → Hid (Tb B T ah wd mo v0 v1 at_ vI vT (.slice (some ⟨g9, 0, none⟩) (S.length + 1) c9) V N L (S ++ [(at_, v, V, N)]) (w9.setCell ⟨T, 8, none⟩ (.slice (some ⟨g9, 0, none⟩) (S.length + 1) c9)) ∧ KpT B T X0 (w9.setCell ⟨T, 8, none⟩ (.slice (some ⟨g9, 0, none⟩) (S.length + 1) c9))) → K (a.put o.dst (.slice (some ⟨g9, 0, none⟩) (S.length + 1) c9)) w9) :
    if Region.wanted o (yielded ops a.tmps) = true then Oper.wp Try.prog o a w K Q else E := by
  refine step_app hg s x 86 95 hop (.agg #[.int .i64 0, .slice none 0 0]) 2 32 Try.underlying86 Try.infoStop rfl (by decide) B b vS S.length (scells S) [Z at_, v] hs hx h.tb.stp rfl (fun u hu => ?_) hcell hl (by decide) (by have := h.tb.lt; have := h.tb.lo; omega) ?_
  · simp only [List.mem_cons, List.not_mem_nil, or_false] at hu
    rcases hu with rfl | rfl
    · rfl
    · exact hv
  · intro g9 c9 w9 ho hg9 _
    have hc := h.tb.c.grown h.tb.stp (by decide) hg9
    exact hK g9 c9 w9 (hc.thaw 8) hc.cells.2.2.2.2.2.2.2.2 (h.done ho hg9)
end

theorem Tb.cut0 {B T : Nat} {ah wd mo : Int} {v0 v1 : Value} {at_ : Nat} {vI vS : Value} {a : Option Addr} {cp : Nat} {V : Bs} {N : Nat} {L : List Tn} {S : List Sp} {W : World} (h : Tb B T ah wd mo v0 v1 at_ vI (.slice a L.length cp) vS V N L S W) : Tb B T ah wd mo v0 v1 at_ vI (.slice a 0 cp) vS V N [] S (W.setCell ⟨T, 6, none⟩ (.slice a 0 cp)) := by
  obtain ⟨v', h1, h2⟩ := h.rw_.cutT (Nat.zero_le L.length)
  rw [h1 a cp rfl] at h2
  exact (h2.setT h.c 6 (.slice a 0 cp)).tb (h.c.set6 _) h.lo

/-- a line of the other row is at hand, and not yet added -/
structure GW (c : Cx) (j : Nat) (w X : World) : Prop where
  env : Env c X
  kp : KpT c.B c.T w X
  jm : j < c.m
  tb : ∃ vI vT vS N L S s, Tb c.B c.T c.ah c.wd c.mo c.v0 (.slice c.a1 c.m c.c1) j vI vT vS (c.D (j + 1)) N L S X ∧ N ≤ c.Nb ∧ (L.length : Int) ≤ c.mo ∧ (∀ e ∈ L, e.2.1 < N) ∧ StOk c S s ∧ Lg c.D s (j + 1) L
/-- its marks are told -/
structure GB (c : Cx) (j : Nat) (w : World) (v : Value) (X : World) : Prop where
  ga : GW c j w X
  mks : ∃ ws, MkAt X v ws (c.gf (c.srt j)) ∧ ws.Sublist (c.wsf (c.srt j)) ∧ ∀ x : Nat, x ∈ ws ↔ x ∈ c.wsf (c.srt j) ∧ loW (c.m - 1 - j) c.ah c.wd ≤ x ∧ x < hiW (c.m - 1 - j) c.ah c.wd
/-- it is added -/
structure GC (c : Cx) (j : Nat) (w X : World) : Prop where
  sq : Sq c (c.mo + c.Nb) j X
  kp : KpT c.B c.T w X
section
variable {c : Cx} {j : Nat} {w X : World}
theorem GW.later {X' : World} (h : GW c j w X) (hb : Below X.heap.size X X') : GW c j w X' := by
  obtain ⟨vI, vT, vS, N, L, S, s, h1, h2⟩ := h.tb
  exact ⟨h.env.later hb, h.kp.trans (KpT.of_below hb), h.jm, vI, vT, vS, N, L, S, s, h1.later hb, h2⟩
theorem GW.drew (h : GW c j w X) : GW c j w X.drew := h.later (Below.refl _ X).drew
theorem GB.drew {v : Value} (h : GB c j w v X) : GB c j w v X.drew := by
  obtain ⟨ws, h1, h2⟩ := h.mks
  exact ⟨h.ga.drew, ws, h1.later (Below.refl _ X).drew, h2⟩
theorem GC.drew (h : GC c j w X) : GC c j w X.drew := ⟨h.sq.later (Below.refl _ X).drew, h.kp.drew⟩
theorem cells5 {b0 k0 b1 : Nat} {at_ : Nat} {bd : Int} {V : Bs} {vI vT vS : Value} {N : Nat} {L : List Tn} {S : List Sp} (hG : Good c) (hj : j < c.m) (he : Env c X) (h : Tb c.B c.T c.ah c.wd c.mo c.v0 (.slice c.a1 c.m c.c1) at_ vI vT vS V N L S X) (h0 : c.v0 = .slice (some ⟨b0, 0, none⟩) c.K k0) (h1 : c.a1 = some ⟨b1, 0, none⟩) (_h : bd = bd) :
    X.cell? ⟨c.T, 0, none⟩ = some (.slice (some ⟨b0, 0, none⟩) c.K k0) ∧ X.cell? ⟨c.T, 1, none⟩ = some (.slice (some ⟨b1, 0, none⟩) c.m c.c1) ∧ X.cell? ⟨c.T, 4, none⟩ = some (.int .i64 at_) ∧ X.cell? ⟨b1, j, none⟩ = some (.int .i64 (c.srt j)) ∧ X.cell? ⟨b0, c.srt j, none⟩ = some (c.vm (c.srt j)) := by
  obtain ⟨t0, t1, t2, t3, t4, t5, t6, t7, t8⟩ := h.c.cells
  refine ⟨by rw [t0, h0], by rw [t1, h1], t4, ?_, ?_⟩
  · have := he.srt
    rw [h1] at this
    rw [this.cellAt j (by omega)]
    simp [hj]
  · have := he.top
    rw [h0] at this
    have hs := hG.srt j hj
    rw [this.cellAt (c.srt j) (by omega)]
    simp [hs]
theorem GW.cells {b0 k0 b1 : Nat} (hG : Good c) (h0 : c.v0 = .slice (some ⟨b0, 0, none⟩) c.K k0) (h1 : c.a1 = some ⟨b1, 0, none⟩) (h : GW c j w X) :
    X.cell? ⟨c.T, 0, none⟩ = some (.slice (some ⟨b0, 0, none⟩) c.K k0) ∧ X.cell? ⟨c.T, 1, none⟩ = some (.slice (some ⟨b1, 0, none⟩) c.m c.c1) ∧ X.cell? ⟨c.T, 4, none⟩ = some (.int .i64 j) ∧ X.cell? ⟨b1, j, none⟩ = some (.int .i64 (c.srt j)) ∧ X.cell? ⟨b0, c.srt j, none⟩ = some (c.vm (c.srt j)) := by
  obtain ⟨vI, vT, vS, N, L, S, s, h2, _⟩ := h.tb
  exact cells5 hG h.jm h.env h2 h0 h1 (bd := 0) rfl
theorem GC.cells {b0 k0 b1 : Nat} (hG : Good c) (hj : j < c.m) (h0 : c.v0 = .slice (some ⟨b0, 0, none⟩) c.K k0) (h1 : c.a1 = some ⟨b1, 0, none⟩) (h : GC c j w X) :
    X.cell? ⟨c.T, 0, none⟩ = some (.slice (some ⟨b0, 0, none⟩) c.K k0) ∧ X.cell? ⟨c.T, 1, none⟩ = some (.slice (some ⟨b1, 0, none⟩) c.m c.c1) ∧ X.cell? ⟨c.T, 4, none⟩ = some (.int .i64 j) ∧ X.cell? ⟨b1, j, none⟩ = some (.int .i64 (c.srt j)) ∧ X.cell? ⟨b0, c.srt j, none⟩ = some (c.vm (c.srt j)) := by
  obtain ⟨vI, vT, vS, N, L, S, s, h2, _⟩ := h.sq.tb
  exact cells5 hG hj h.sq.env h2 h0 h1 (bd := 0) rfl
theorem ga_near (hG : Good c) (h : GW c j w X) : Calls Try.prog 84 #[.pointer (some ⟨c.T, 0, none⟩), c.vm (c.srt j)] X fun e w' => ∃ v, e = .returned v ∧ GB c j w v w' := by
  obtain ⟨vI, vT, vS, N, L, S, s, h2, _⟩ := h.tb
  have hs := hG.srt j h.jm
  obtain ⟨u1, u2, u3⟩ := hG.up _ hs
  have hm := h.env.mks _ hs
  obtain ⟨a, cp, hv⟩ := hm.shape
  rw [hv] at hm ⊢
  have hl := sorted_len (Nb := c.Nb) (c.wsf (c.srt j)) 0 u1 (fun x hx => ⟨Nat.zero_le _, u2 x hx⟩)
  have := hG.nb
  have := hG.m
  refine (bnear_any h2 a _ cp (c.wsf (c.srt j)) _ hm rfl u1 (by omega) h.jm (by omega) hG.ah hG.wd).mono ?_
  rintro e w' ⟨⟨v', ws', rfl, a1, a2, a3⟩, hb⟩
  exact ⟨v', rfl, h.later hb, ws', a1, a2, a3⟩
theorem gb_add (hG : Good c) {v : Value} (h : GB c j w v X) : Calls Try.prog 83 #[.pointer (some ⟨c.T, 0, none⟩), v] X fun e w' => ∃ v, e = .returned v ∧ GC c j w w' := by
  obtain ⟨vI, vT, vS, N, L, S, s, h2, h3, h4, h5, h6, h7⟩ := h.ga.tb
  obtain ⟨ws, m1, m2, m3⟩ := h.mks
  have hs := hG.srt j h.ga.jm
  obtain ⟨u1, u2, u3⟩ := hG.up _ hs
  have hm := hG.mo
  refine (badd_any (hG.rp j h.ga.jm) ws m1 (u1.sublist m2) (fun x hx => u2 x (m2.subset hx)) (fun x hx p hp => ?_) (fun p hp => ?_) h2 h3 hG.nb (by omega)).mono ?_
  · have := (m3 x).1 hx
    unfold Cx.gb
    rw [decide_eq_true (by rw [hp]; exact this.2)]; simp
  · unfold Cx.gb at hp
    simp only [Bool.and_eq_true, decide_eq_true_eq] at hp
    exact (m3 _).2 ⟨u3 p hp.1, hp.2⟩
  · rintro e w' ⟨⟨v, rfl⟩, hk, vI', vT', N', X', b1, b2, b3, b4, b5, b6⟩
    have hnb := hG.nb
    refine ⟨v, rfl, ⟨h.ga.env.kpt h2.c hk, h.ga.jm, vI', vT', vS, N', L ++ X', S, s, b1, b3, by rw [List.length_append]; omega, fun e he => ?_, h6, h7.step (fun e he => (b5 e he).1) b6, h7.le.1⟩, h.ga.kp.trans hk⟩
    rcases List.mem_append.1 he with he | he
    · have := h5 e he; omega
    · exact (b5 e he).2
/-- a line more is at hand -/
theorem St.ahead (h : St c c.mo (j + 1) X) (hk : KpT c.B c.T w X) : GW c j w (X.setCell ⟨c.T, 4, none⟩ (Z j)) := by
  obtain ⟨vI, vT, vS, N, L, S, s, h2, h3, h4, h5, h6, h7⟩ := h.tb
  have k3 := (KpT.refl (B := c.B) (T := c.T) (W := X)).setT 4 (Z j)
  exact ⟨h.env.kpt h2.c k3, hk.trans k3, by have := h.le; omega, vI, vT, vS, N, L, S, s, (h2.rw_.setT h2.c 4 (Z j)).tb (h2.c.set4 (Z j)) h2.lo, h3, h4, h5, h6, h7⟩
end

set_option maxHeartbeats 4000000 in
theorem bgoto_any (c : Cx) (hG : Good c) (there at0 : Nat) (hle : there ≤ at0) (w : World) (h : St c (c.mo + c.Nb) at0 w) :
    Calls Try.prog 73 #[.pointer (some ⟨c.T, 0, none⟩), .int .i64 there] w fun e w' => (∃ v, e = .returned v) ∧ KpT c.B c.T w w' ∧ St c (c.mo + c.Nb) there w' ∧ (there < at0 → Sq c (c.mo + c.Nb) there w') := by
  have HG := hidden hG
  have hm := hG.m
  have hnb := hG.nb
  have hmo := hG.mo
  have hat := h.le
  have HS := hidden (show St c (c.mo + c.Nb) at0 w ∧ KpT c.B c.T w w from ⟨h, KpT.refl⟩)
  clear hG h
  obtain ⟨T, hT⟩ : ∃ T, c.T = T := ⟨_, rfl⟩
  obtain ⟨mo, hmo2⟩ : ∃ mo, c.mo = mo := ⟨_, rfl⟩
  have HTT := hidden hT
  have HMO := hidden hmo2
  rw [hT]
  rw [hmo2] at hmo
  clear hT hmo2
  go_enter Try.func73, Try.ntmps73
  go_wp2_with fail
  go_loopg [9] (at0 - there) (fun j _ wr => Hid (∃ k : Nat, there ≤ k ∧ k ≤ at0 ∧ k ≤ there + j ∧ St c (c.mo + c.Nb) k wr ∧ KpT c.B c.T w wr ∧ (k < at0 → Sq c (c.mo + c.Nb) k wr)))
  case atStart => exact ⟨at0, hle, Nat.le_refl _, by omega, HS.out.1, HS.out.2, fun e => absurd e (Nat.lt_irrefl _)⟩
  case round =>
    clear HS
    obtain ⟨k, h1, h2, h3, hst, hkp, hsq⟩ := hrel.out
    have HSQ := hidden hsq
    clear hsq
    clear hrel
    obtain ⟨henv, hkm, vI, vT, vS, N, L, S, s, b1, b2, b3, b4, b5, b6⟩ := hst
    rw [HTT.out, HMO.out] at b1
    obtain ⟨aT, cT, rfl, hcT, haT⟩ := own_shape b1.trn
    have HB := hidden b1
    have HE := hidden henv
    have HK := hidden (show KpT c.B T w wr by rw [← HTT.out]; exact hkp)
    have HB3 := hidden b3
    have HB4 := hidden b4
    have HB5 := hidden b5
    have HB6 := hidden b6
    obtain ⟨t0, t1, t2, t3, t4, t5, t6, t7, t8⟩ := b1.c.cells
    clear b1 b3 b4 b5 b6 henv hkp t0 t1 t2 t3 t5 t8
    by_cases hlt : there < k
    · have hd : decide ((k : Int) > there) = true := by simp; omega
      have hd2 : decide ((there : Int) < k) = true := by simp; omega
      go_wp2_with fail
      go_quiet (fail)
      have HB2 := hidden (HB.out.drewN nq)
      have HE2 := hidden (HE.out.later (below_drewN (Below.refl _ wr) nq))
      have HK2 := hidden (HK.out.drewN nq)
      clear HB HE HK t4 t6 t7
      generalize World.drewN wr nq = W2 at HB2 HE2 HK2 ⊢
      clear nq
      obtain ⟨t0, t1, t2, t3, t4, t5, t6, t7, t8⟩ := HB2.out.c.cells
      clear t0 t1 t2 t3 t7
      go_upto_if 19 with fail
      go_cut [19] from 20 to 46 (fun _ wx => Hid (St c c.mo k wx ∧ KpT c.B c.T w wx))
      case first =>
        by_cases hgt : mo < L.length
        · have hdd : decide (mo < (L.length : Int)) = true := by simpa using hgt
          go_wp2_with fail
          have HSL := hidden (show S.length < 4398046511104 by have := HB5.out.len; omega)
          go_cut [19] from 20 to 38 (fun _ wx => Hid (∃ v vS', Tb c.B T c.ah c.wd mo c.v0 (.slice c.a1 c.m c.c1) k vI (.slice aT L.length cT) vS' (c.D k) N L (S ++ [(k, v, c.D k, N)]) wx ∧ KpT c.B T w wx ∧ Env c wx))
          case first =>
            go_region_law (first
                | (refine step_call rfl 82 _ _ rfl #[vI] (by simp [Act.eval]) (enters_of Try.func82 (by kernel_rfl) rfl) (clone_ck HB2.out ?_ (by omega)) ?_; (· first | exact Below.refl _ _ | exact (Below.refl _ _).drew); rintro e w5 ⟨av, cv, rfl, hCK⟩; refine ⟨_, rfl, ?_⟩; obtain ⟨c8, c4, c5⟩ := CK.cells hCK; have a8 : ∀ o, (w5.alloc o).cell? ⟨T, 8, none⟩ = some vS := fun o => (CK.cells (CK.alloc hCK o)).1)
                | (refine step_stop (v := .slice av N cv) (X0 := W2) (vS := vS) rfl (.tmp 24) (.tmp 35) rfl _ (by simp [Act.eval]) (by simp [Act.eval]) rfl (by repeat (first | assumption | apply CK.drew | apply CK.alloc)) (cells_new _ _ _ rfl _) HSL.out ?_; intro g9 c9 w9 tf9 tc9 HDN))
            all_goals
              go_wp2_with fail
              go_meet
              case rel => exact ⟨_, _, HDN.out.1, HK2.out.trans HDN.out.2, HE2.out.kpt (by rw [HTT.out]; exact HB2.out.c) (by rw [HTT.out]; exact HDN.out.2)⟩
          case rest =>
            obtain ⟨v, vS', r1, r2, r3⟩ := hcut.out
            have HB9 := hidden r1
            have HK9 := hidden r2
            have HE9 := hidden r3
            clear hcut r1 r2 r3 t4 t5 t6 t8
            have t6 := HB9.out.c.cells.2.2.2.2.2.2.1
            have tf : ∀ i, wc.frozen? ⟨T, i, none⟩ = false := HB9.out.c.thaw
            obtain ⟨gT, rfl⟩ : ∃ ad, aT = some ad := by
              cases aT with
              | none => have := haT rfl; omega
              | some ad => exact ⟨ad, rfl⟩
            go_wp2_with fail
            go_meet
            case rel =>
              have hks : k < s := by
                have := HB6.out.le.1
                rcases Nat.lt_or_eq_of_le this with h | h
                · exact h
                · subst h; have := HB6.out.at_s; subst this; simp at hgt; omega
              have hcut := HB9.out.cut0
              have k3 := (KpT.refl (B := c.B) (T := T) (W := wc)).setT 6 (.slice (some gT) 0 cT)
              refine ⟨⟨HE9.out.kpt (by rw [HTT.out]; exact HB9.out.c) (by rw [HTT.out]; exact k3), hkm, _, _, _, N, [], _, k, by rw [HTT.out, HMO.out]; exact hcut, b2, by rw [HMO.out]; simp; omega, by simp, HB5.out.more (t := (k, v, c.D k, N)) hks rfl b2, Lg.base⟩, by rw [HTT.out]; exact HK9.out.trans k3⟩
        · have hdd : decide (mo < (L.length : Int)) = false := by simpa using hgt
          go_wp2_with fail
          go_meet
          case rel =>
            have hb := HB2.out
            rw [← HTT.out, ← HMO.out] at hb
            exact ⟨⟨HE2.out, hkm, _, _, _, N, L, S, s, hb, b2, by rw [HMO.out]; omega, HB4.out, HB5.out, HB6.out⟩, by rw [HTT.out]; exact HK2.out⟩
      case rest =>
        clear HB2 HE2 HK2 HB3 HB4 HB5 HB6 t4 t5 t6 t8 haT hcT
        obtain ⟨j, rfl⟩ : ∃ j, k = j + 1 := ⟨k - 1, by omega⟩
        have HST := hidden hcut.out.1
        have HK2 := hidden hcut.out.2
        clear hcut
        have HA := hidden (HST.out.ahead HK2.out)
        have ta := HST.out.tb
        obtain ⟨_, _, _, _, _, _, _, tb, _⟩ := ta
        have t4 := tb.c.cells.2.2.2.2.1
        have tf := tb.c.thaw 4
        rw [HTT.out] at t4 tf HA
        clear tb
        rw [show (((j + 1 : Nat) : Nat) : Int) = (j : Int) + 1 by omega] at t4
        go_upto_region 5 with fail
        have HGD := hidden (show Good c from HG.out)
        obtain ⟨b0, k0, h0⟩ : ∃ b0 k0, c.v0 = .slice (some ⟨b0, 0, none⟩) c.K k0 := by
          have := HGD.out.srt j (by omega)
          obtain ⟨g, cp, e, _⟩ := HA.out.env.top.form (by omega)
          exact ⟨g, cp, e⟩
        obtain ⟨b1, h1⟩ : ∃ b1, c.a1 = some ⟨b1, 0, none⟩ := by
          obtain ⟨g, cp, e, _⟩ := HA.out.env.srt.form (by omega)
          injection e with e1
          exact ⟨g, e1⟩
        have HH0 := hidden h0
        have HH1 := hidden h1
        have HCA := hidden (show ∀ X, GW c j w X → X.cell? ⟨T, 0, none⟩ = some (.slice (some ⟨b0, 0, none⟩) c.K k0) ∧ X.cell? ⟨T, 1, none⟩ = some (.slice (some ⟨b1, 0, none⟩) c.m c.c1) ∧ X.cell? ⟨T, 4, none⟩ = some (.int .i64 j) ∧ X.cell? ⟨b1, j, none⟩ = some (.int .i64 (c.srt j)) ∧ X.cell? ⟨b0, c.srt j, none⟩ = some (c.vm (c.srt j)) from fun X h => by
          have := GW.cells HGD.out HH0.out HH1.out h
          rw [HTT.out] at this
          exact this)
        have HCC := hidden (show ∀ X, GC c j w X → X.cell? ⟨T, 0, none⟩ = some (.slice (some ⟨b0, 0, none⟩) c.K k0) ∧ X.cell? ⟨T, 1, none⟩ = some (.slice (some ⟨b1, 0, none⟩) c.m c.c1) ∧ X.cell? ⟨T, 4, none⟩ = some (.int .i64 j) ∧ X.cell? ⟨b1, j, none⟩ = some (.int .i64 (c.srt j)) ∧ X.cell? ⟨b0, c.srt j, none⟩ = some (c.vm (c.srt j)) from fun X h => by
          have := GC.cells HGD.out (by omega) HH0.out HH1.out h
          rw [HTT.out] at this
          exact this)
        have hN := HA.out
        clear HST HK2 t4 tf h0 h1
        generalize World.setCell wc _ _ = W3 at HA hN ⊢
        obtain ⟨t0, t1, t4, d1, d0⟩ := HCA.out W3 hN
        obtain ⟨sr, hsr⟩ : ∃ sr, c.srt j = sr := ⟨_, rfl⟩
        obtain ⟨vmj, hvm⟩ : ∃ vmj, c.vm sr = vmj := ⟨_, rfl⟩
        have HSR := hidden hsr
        have HVM := hidden hvm
        have hsk : sr < c.K := by rw [← hsr]; exact HGD.out.srt j (by omega)
        rw [hsr] at d1 d0
        rw [hvm] at d0
        have hjm : j < c.m := by omega
        obtain ⟨K, hK⟩ : ∃ K, c.K = K := ⟨_, rfl⟩
        obtain ⟨m, hmm⟩ : ∃ m, c.m = m := ⟨_, rfl⟩
        obtain ⟨c1, hc1⟩ : ∃ c1, c.c1 = c1 := ⟨_, rfl⟩
        have HLET := hidden (show c.K = K ∧ c.m = m ∧ c.c1 = c1 from ⟨hK, hmm, hc1⟩)
        rw [hK] at t0 hsk
        rw [hmm, hc1] at t1
        rw [hmm] at hjm
        clear hsr hvm hK hmm hc1
        have HS5 := hidden (show ∀ X, GW c j w X ∨ GC c j w X → X.cell? ⟨T, 0, none⟩ = some (.slice (some ⟨b0, 0, none⟩) K k0) ∧ X.cell? ⟨T, 1, none⟩ = some (.slice (some ⟨b1, 0, none⟩) m c1) ∧ X.cell? ⟨T, 4, none⟩ = some (.int .i64 j) ∧ X.cell? ⟨b1, j, none⟩ = some (.int .i64 sr) ∧ X.cell? ⟨b0, sr, none⟩ = some vmj from fun X h => by
          have h5 := h.elim (HCA.out X) (HCC.out X)
          rw [HSR.out, HVM.out, HLET.out.1, HLET.out.2.1, HLET.out.2.2] at h5
          exact h5)
        clear HCA HCC
        have HNR := hidden (show ∀ X, GW c j w X → Calls Try.prog 84 #[.pointer (some ⟨T, 0, none⟩), vmj] X fun e w' => ∃ v, e = .returned v ∧ GB c j w v w' from fun X h => by
          have hcall := ga_near HGD.out h
          rw [HTT.out, HSR.out, HVM.out] at hcall
          exact hcall)
        have HAR := hidden (show ∀ v X, GB c j w v X → Calls Try.prog 83 #[.pointer (some ⟨T, 0, none⟩), v] X fun e w' => ∃ v, e = .returned v ∧ GC c j w w' from fun v X h => by
          have hcall := gb_add HGD.out h
          rw [HTT.out] at hcall
          exact hcall)
        go_region_held3 (fun X => X.cell? ⟨T, 0, none⟩ = some (.slice (some ⟨b0, 0, none⟩) K k0) ∧ X.cell? ⟨T, 1, none⟩ = some (.slice (some ⟨b1, 0, none⟩) m c1) ∧ X.cell? ⟨T, 4, none⟩ = some (.int .i64 j) ∧ X.cell? ⟨b1, j, none⟩ = some (.int .i64 sr) ∧ X.cell? ⟨b0, sr, none⟩ = some vmj)
          (first | exact ⟨t0, t1, t4, d1, d0⟩ | exact HS5.out _ (Or.inl hN) | exact HS5.out _ (Or.inl (GW.drew (by assumption))) | exact HS5.out _ (Or.inl (GB.ga (by assumption))) | exact HS5.out _ (Or.inl (GB.ga (GB.drew (by assumption)))) | exact HS5.out _ (Or.inr (by assumption)) | assumption)
          (first
            | (go_at_call 84; refine (HNR.out _ ?_).mono ?_; (· repeat (first | assumption | apply GW.drew)); rintro e w5 ⟨v5, rfl, hGB⟩)
            | (go_at_call 83; refine (HAR.out _ _ ?_).mono ?_; (· repeat (first | assumption | apply GB.drew)); rintro e w6 ⟨v6, rfl, hGC⟩))
        have HFIN := hidden hGC
        clear hGC hGB hN t0 t1 t4 d1 d0
        go_wp2_with fail
        go_roundg (gk - 1)
        case rel => exact ⟨j, by omega, by omega, by omega, HFIN.out.sq.st, HFIN.out.kp, fun _ => HFIN.out.sq⟩
        case measure => omega
    · obtain rfl : there = k := by omega
      have hd : decide ((there : Int) > there) = false := by simp
      have hd2 : decide ((there : Int) < there) = false := by simp
      go_wp2_with fail
      go_end0
      refine ⟨⟨_, rfl⟩, HK.out, ⟨HE.out, hkm, vI, .slice aT L.length cT, vS, N, L, S, s, ?_, b2, HB3.out, HB4.out, HB5.out, HB6.out⟩, HSQ.out⟩
      rw [HTT.out, HMO.out]
      exact HB.out

end Go.Proofs.Ytmbalnjobcgpkaa

namespace Go.Proofs.Ytmbalnjobcgpkaa
open Go.RowKit Go.Proofs.Ytmbalnjobcgpkaa.Ln Go.Proofs.Ytmbalnjobcgpkaa.Ol

/-- a stop in a block of its own -/
def Sp1 (W : World) (b : Nat) (z : Nat) (v : Value) : Prop := W.heap[b]? = some (.cells #[Z z, v] 95 (0, 0))
theorem Sp1.cells {W : World} {b z : Nat} {v : Value} (h : Sp1 W b z v) : W.cell? ⟨b, 0, none⟩ = some (.int .i64 z) ∧ W.cell? ⟨b, 1, none⟩ = some v := by
  unfold World.cell?; rw [show W.heap[b]? = _ from h]; exact ⟨rfl, rfl⟩
/-- the words are others -/
theorem RwT.reI {B : Nat} {vI vT vS : Value} {V : Bs} {N : Nat} {L : List Tn} {S : List Sp} {W W' : World} (h : RwT B vI vT vS V N L S W) {vI' : Value} {V' : Bs} {n : Nat} (ho : W'.ownsRow B 93 1 vI' n (wcells V' n)) (ht : ∀ p, 64 * n ≤ p → V' p = true) (hg : W.grownBy W' vI.ownBlock) (hn : vI'.ownBlock = vI.ownBlock ∨ vI'.ownBlock = some W.heap.size) : RwT B vI' vT vS V' n L S W' := by
  refine ⟨ho, ht, h.trn.kept hg (own_ne h.trn h.ids (by decide)), h.stp.kept hg (own_ne h.stp h.ids (by decide)), fun s hs => ⟨(h.old s hs).1.kept hg (h.old s hs).2.1, ?_, (h.old s hs).2.2⟩⟩
  rcases hn with hn | hn
  · rw [hn]; exact (h.old s hs).2.1
  · cases hv : s.2.1.ownBlock with
    | none => exact Or.inl rfl
    | some q =>
      refine Or.inr fun e => ?_
      rw [hn] at e
      cases e
      have := (own_kind (h.old s hs).1 hv).2.1
      omega
/-- the words are those of a stop -/
theorem re_done {B T : Nat} {v0 v1 ah wd u4 mo vT vS : Value} {aI : Option Addr} {N cI : Nat} {V V' : Bs} {sN : Nat} {L : List Tn} {S : List Sp} {X w9 : World} {v9 : Value} (hc : TbC X T v0 v1 ah wd u4 (.slice aI N cI) vT mo vS) (h : RwT B (.slice aI N cI) vT vS V N L S X) (ho : w9.ownsRow B 93 1 v9 sN (wcells V' sN)) (ht : ∀ p, 64 * sN ≤ p → V' p = true) (hg : X.grownBy w9 (Value.slice aI 0 cI).ownBlock) (hl : v9.ownBlock = (Value.slice aI 0 cI).ownBlock ∨ v9.ownBlock = some X.heap.size) :
    TbC w9 T v0 v1 ah wd u4 (.slice aI N cI) vT mo vS ∧ RwT B v9 vT vS V' sN L S w9 ∧ KpT B T X w9 := by
  have e : (Value.slice aI 0 cI).ownBlock = (Value.slice aI N cI).ownBlock := by cases aI <;> rfl
  rw [e] at hg hl
  exact ⟨hc.grown h.ids (by decide) hg, h.reI ho ht hg hl, kpt_row h.ids (Or.inl rfl) hg⟩

theorem own_none {W : World} {B size n cp : Nat} {e : TypeId} {a : Option Addr} {xs : List Value} (h : W.ownsRow B e size (.slice a n cp) n xs) : W.ownsRow B e size (.slice a 0 cp) 0 [] := by
  obtain ⟨v', h1, _, h3⟩ := own_cut h (Nat.zero_le n)
  rw [h1 a cp rfl, Nat.zero_mul, List.take_zero] at h3
  exact h3

set_option maxHeartbeats 4000000 in
theorem bagain_any (c : Cx) (hG : Good c) (at_ : Nat) (w : World) {vI vT vS : Value} {N : Nat} {S : List Sp} (he : Env c w) (hat : at_ < c.m) (h : Tb c.B c.T c.ah c.wd c.mo c.v0 (.slice c.a1 c.m c.c1) at_ vI vT vS (c.D at_) N [] S w) (hS : StOk c S at_) (hN : N ≤ c.Nb) :
    Calls Try.prog 75 #[.pointer (some ⟨c.T, 0, none⟩)] w fun e w' => (∃ v, e = .returned v) ∧ KpT c.B c.T w w' ∧ Sq c (c.mo + c.Nb) at_ w' := by
  obtain ⟨hs2, t, ht, htl, htm, hS2⟩ := hS.less hat
  obtain ⟨q, hq⟩ : ∃ q, S.length = q + 2 := ⟨S.length - 2, by omega⟩
  rw [hq, show q + 2 - 1 = q + 1 by omega] at hS2
  rw [hq, show q + 2 - 2 = q by omega] at ht
  have hqm : q ≤ 4294967296 := by have := hS.len; have := hG.m; omega
  have hte := hS.each _ t ht
  have hold := h.old t (List.mem_of_getElem? ht)
  obtain ⟨z, sv, sV, sN⟩ := t
  simp only at htl htm hte hold hS2
  obtain ⟨_, rfl, hsN⟩ := hte
  obtain ⟨aI, cI, rfl, hcI, haI⟩ := own_shape h.ids
  obtain ⟨aT, cT, rfl, hcT, haT⟩ := own_shape h.trn
  obtain ⟨gS, cS, rfl, _, hgl⟩ := h.stp.form (by omega)
  obtain ⟨as_, cs_, rfl, hcs, has⟩ := own_shape hold.1
  have HG := hidden hG
  have HE := hidden he
  have HT := hidden h
  have HS2 := hidden hS2
  have HOL := hidden hold
  have hcc := (own_shape h.stp)
  obtain ⟨_, _, e9, hcS, _⟩ := hcc
  cases e9
  rw [hq] at hcS
  obtain ⟨d0, d1⟩ := scells_at S q _ ht
  have e0 := h.stp.cellAt (q * 2) (by omega)
  have e1 := h.stp.cellAt (q * 2 + 1) (by omega)
  rw [d0] at e0
  rw [d1] at e1
  simp only at e0 e1
  obtain ⟨t0, t1, t2, t3, t4, t5, t6, t7, t8⟩ := h.c.cells
  rw [hq] at t8
  have hnb := hG.nb
  obtain ⟨T, hT⟩ : ∃ T, c.T = T := ⟨_, rfl⟩
  have HTT := hidden hT
  have tf : ∀ i, w.frozen? ⟨T, i, none⟩ = false := by rw [← hT]; exact h.c.thaw
  rw [hT] at t4 t5 t8 ⊢
  have HQ := hidden hq
  have HTL := hidden htl
  have HTM := hidden htm
  have hlt := h.lt
  rw [hT] at hlt
  clear hG he h hS hS2 hold t0 t1 t2 t3 t6 t7 hT ht hq d0 d1 hs2
  go_enter Try.func75, Try.ntmps75
  go_wp2_with fail
  go_region
  have HC1 := hidden (show TbC (w.setCell ⟨T, 8, none⟩ (.slice (some ⟨gS, 0, none⟩) (q + 1) cS)).drew T c.v0 (.slice c.a1 c.m c.c1) (Z c.ah) (Z c.wd) (Z at_) (.slice aI N cI) (.slice aT 0 cT) (Z c.mo) (.slice (some ⟨gS, 0, none⟩) (q + 1) cS) by
    have := (HT.out.c.set8 (.slice (some ⟨gS, 0, none⟩) (q + 1) cS)).drew
    rw [HTT.out] at this
    exact this)
  have HR1 := hidden (show RwT c.B (.slice aI N cI) (.slice aT 0 cT) (.slice (some ⟨gS, 0, none⟩) (q + 1) cS) (c.D at_) N [] (S.take (q + 1)) (w.setCell ⟨T, 8, none⟩ (.slice (some ⟨gS, 0, none⟩) (q + 1) cS)).drew by
    obtain ⟨v', h1, h2⟩ := HT.out.rw_.cutS (k := q + 1) (by rw [HQ.out]; omega)
    rw [h1 _ cS rfl] at h2
    have := (h2.setT HT.out.c 8 (.slice (some ⟨gS, 0, none⟩) (q + 1) cS)).drew
    rw [HTT.out] at this
    exact this)
  have HK1 := hidden ((KpT.refl (B := c.B) (T := T) (W := w)).setT 8 (.slice (some ⟨gS, 0, none⟩) (q + 1) cS)).drew
  have HE1 := hidden (show Env c (w.setCell ⟨T, 8, none⟩ (.slice (some ⟨gS, 0, none⟩) (q + 1) cS)).drew from HE.out.kpt HT.out.c (by rw [HTT.out]; exact HK1.out))
  have HO1 := hidden (show (w.setCell ⟨T, 8, none⟩ (.slice (some ⟨gS, 0, none⟩) (q + 1) cS)).drew.ownsRow c.B 93 1 (.slice as_ sN cs_) sN (wcells (c.D z) sN) by
    have := owns_later (rowT_keep HT.out.c HOL.out.1 (by decide) 8 (.slice (some ⟨gS, 0, none⟩) (q + 1) cS)) (Below.refl _ _).drew
    rw [HTT.out] at this
    exact this)
  have HX0 := hidden (show (w.setCell ⟨T, 8, none⟩ (.slice (some ⟨gS, 0, none⟩) (q + 1) cS)).drew.cell? ⟨gS, q * 2, none⟩ = some (Z z) ∧ (w.setCell ⟨T, 8, none⟩ (.slice (some ⟨gS, 0, none⟩) (q + 1) cS)).drew.cell? ⟨gS, q * 2 + 1, none⟩ = some (.slice as_ sN cs_) by
    have hne : gS ≠ T := fun e => own_notT HT.out.c HT.out.stp (by decide) (by rw [HTT.out, ← e]; rfl)
    have hb : (w.setCell ⟨T, 8, none⟩ (.slice (some ⟨gS, 0, none⟩) (q + 1) cS)).drew.heap[gS]? = w.heap[gS]? := heap_setCell_ne _ _ _ _ _ hne
    rw [World.cell?_of_block (a := ⟨gS, q * 2, none⟩) hb, World.cell?_of_block (a := ⟨gS, q * 2 + 1, none⟩) hb]
    exact ⟨e0, e1⟩)
  clear t4 t5 t8 tf e0 e1
  generalize World.drew _ = W2 at HC1 HR1 HK1 HE1 HO1 HX0 ⊢
  obtain ⟨x0, x1⟩ := HX0.out
  obtain ⟨t0, t1, t2, t3, t4, t5, t6, t7, t8⟩ := HC1.out.cells
  have hgW : gS < W2.heap.size := World.block_lt_of_cell? W2 ⟨gS, q * 2, none⟩ x0
  have q8 : ∀ o, (W2.alloc o).cell? ⟨T, 8, none⟩ = some (.slice (some ⟨gS, 0, none⟩) (q + 1) cS) := fun o => (HC1.out.alloc o).cells.2.2.2.2.2.2.2.2
  have y0 : ∀ o, (W2.alloc o).cell? ⟨gS, q * 2, none⟩ = some (Z z) := fun o => ((bel_alloc (Below.refl W2.heap.size W2) o).cell (p := ⟨gS, q * 2, none⟩) hgW).trans x0
  have y1 : ∀ o, (W2.alloc o).cell? ⟨gS, q * 2 + 1, none⟩ = some (.slice as_ sN cs_) := fun o => ((bel_alloc (Below.refl W2.heap.size W2) o).cell (p := ⟨gS, q * 2 + 1, none⟩) hgW).trans x1
  clear t0 t1 t2 t3 t4 t5 t6 t7
  go_wp2_with fail
  go_region
  have HC2 := hidden ((HC1.out.alloc (.cells #[.int .i64 z, .slice as_ sN cs_] 95)).drew)
  have HR2 := hidden ((HR1.out.alloc (.cells #[.int .i64 z, .slice as_ sN cs_] 95)).drew)
  have HK2 := hidden ((HK1.out.alloc (.cells #[.int .i64 z, .slice as_ sN cs_] 95)).drew)
  have HE2 := hidden (HE1.out.later ((bel_alloc (Below.refl W2.heap.size W2) (.cells #[.int .i64 z, .slice as_ sN cs_] 95)).drew))
  have HO2 := hidden (owns_later HO1.out ((bel_alloc (Below.refl W2.heap.size W2) (.cells #[.int .i64 z, .slice as_ sN cs_] 95)).drew))
  have HSP := hidden (show Sp1 (W2.alloc (.cells #[.int .i64 z, .slice as_ sN cs_] 95)).drew W2.heap.size z (.slice as_ sN cs_) from World.alloc_heap_new W2 _)
  have hQT : W2.heap.size ≠ T := by have := HC1.out.lt; omega
  clear x0 x1 t8 q8 y0 y1 hgW HX0 HC1 HR1 HK1 HE1 HO1
  generalize hW3 : World.drew _ = W3 at HC2 HR2 HK2 HE2 HO2 HSP ⊢
  clear hW3
  obtain ⟨Q, hQ⟩ : ∃ Q, W2.heap.size = Q := ⟨_, rfl⟩
  rw [hQ] at HSP hQT ⊢
  clear hQ
  obtain ⟨x0, x1⟩ := HSP.out.cells
  obtain ⟨t0, t1, t2, t3, t4, t5, t6, t7, t8⟩ := HC2.out.cells
  have tf : ∀ i, W3.frozen? ⟨T, i, none⟩ = false := HC2.out.thaw
  have HQN := hidden (show ∀ w9 : World, W3.drew.grownBy w9 (Value.slice aI 0 cI).ownBlock → w9.cell? ⟨Q, 0, none⟩ = some (.int .i64 z) from fun w9 hg => by
    have hlt : Q < W3.heap.size := World.block_lt_of_cell? W3 ⟨Q, 0, none⟩ x0
    refine (World.cell?_of_block (w := W3) (a := ⟨Q, 0, none⟩) (hg.block Q hlt fun hv => ?_)).trans x0
    have e : (Value.slice aI 0 cI).ownBlock = (Value.slice aI N cI).ownBlock := by cases aI <;> rfl
    rw [e] at hv
    obtain ⟨_, _, cur, h2⟩ := own_kind HR2.out.ids hv.symm
    rw [show W3.heap[Q]? = _ from HSP.out] at h2
    cases h2)
  have HWO := hidden (wcells_one (c.D z) sN)
  have HBs := hidden (show c.B ≤ W3.heap.size ∧ T < W3.heap.size by have h1 := HC2.out.lt; have h2 := HT.out.lo; rw [HTT.out] at h2; omega)
  have HSM := hidden (show 0 + sN < 4398046511104 by omega)
  have HTP := hidden HOL.out.2.2
  clear t0 t1 t2 t3 t6 t7 t8
  go_wp2_with fail
  go_region_law (refine step_appw rfl (.tmp 42) (.tmp 44) rfl c.B (.slice aI 0 cI) (.slice as_ sN cs_) 0 sN [] (wcells (c.D z) sN) (by first | rfl | simp [Act.eval, Act.put]) (by first | rfl | simp [Act.eval, Act.put]) (own_none (owns_later HR2.out.ids (Below.refl _ _).drew)) (owns_later HO2.out (Below.refl _ _).drew) HWO.out HSM.out HBs.out.1 ?_; intro v9 w9 hown9 hg9 hl9; rw [Nat.zero_add, List.nil_append] at hown9; obtain ⟨a9, c9, rfl, _⟩ := own_shape hown9; have HA9 := hidden (re_done HC2.out.drew HR2.out.drew hown9 HTP.out hg9 hl9); have tf9 : ∀ i, w9.frozen? ⟨T, i, none⟩ = false := HA9.out.1.thaw; have tc9 := HA9.out.1.cells.2.2.2.2.1; have td9 := HA9.out.1.cells.2.2.2.2.2.1; have zx0 := HQN.out w9 hg9)
  all_goals
    have HK9 := hidden ((((HK2.out.drew.trans HA9.out.2.2).setT 4 (.int .i64 z)).setT 5 (.slice a9 sN c9)))
    have HCF := hidden ((HA9.out.1.set4 (.int .i64 z)).set5 (.slice a9 sN c9))
    have HRF := hidden ((HA9.out.2.1.setT HA9.out.1 4 (.int .i64 z)).setT (HA9.out.1.set4 (.int .i64 z)) 5 (.slice a9 sN c9))
    have HEF := hidden (show Env c ((w9.setCell ⟨T, 4, none⟩ (.int .i64 z)).setCell ⟨T, 5, none⟩ (.slice a9 sN c9)) from HE.out.kpt HT.out.c (by rw [HTT.out]; exact HK9.out))
    clear HA9 tf9 tc9 td9 zx0 hown9 hg9 hl9 x0 x1 t4 t5 tf
    generalize World.setCell (World.setCell w9 _ _) _ _ = W5 at HK9 HCF HRF HEF ⊢
    have HST := hidden (show St c (c.mo + c.Nb) z W5 from ⟨HEF.out, HTM.out, _, _, _, sN, [], S.take (q + 1), z, HRF.out.tb (by rw [HTT.out]; exact HCF.out) HT.out.lo, hsN, by have := HG.out.mo; simp; omega, by simp, HS2.out, Lg.base⟩)
    go_wp2_with fail
    have hcall := bgoto_any c HG.out at_ z (Nat.le_of_lt HTL.out) W5 HST.out
    rw [HTT.out] at hcall
    refine hcall.mono ?_
    clear hcall
    rintro e w6 ⟨⟨v6, rfl⟩, hk6, _, hsq6⟩
    have HF := hidden (hsq6 HTL.out)
    have HK6 := hidden hk6
    clear hk6 hsq6
    go_wp2_with fail
    go_end0
    exact ⟨⟨_, rfl⟩, HK9.out.trans HK6.out, HF.out⟩

end Go.Proofs.Ytmbalnjobcgpkaa

namespace Go.Proofs.Ytmbalnjobcgpkaa
open Go.RowKit Go.Proofs.Ytmbalnjobcgpkaa.Ln Go.Proofs.Ytmbalnjobcgpkaa.Ol

/-- so far it is taken back -/
structure Bk (c : Cx) (at_ : Nat) (r n : Nat) (w X : World) : Prop where
  env : Env c X
  kp : KpT c.B c.T w X
  tb : ∃ vI vT vS V N L Y S s, Tb c.B c.T c.ah c.wd c.mo c.v0 (.slice c.a1 c.m c.c1) at_ vI vT vS V N (L ++ Y) S X ∧ Y.length = r ∧ (L ++ Y).length = n ∧ N ≤ c.Nb ∧ ((L ++ Y).length : Int) ≤ c.mo + c.Nb ∧ (∀ e ∈ L ++ Y, e.2.1 < N) ∧ StOk c S s ∧ Lg c.D s (at_ + 1) L ∧ (∀ e ∈ Y, e.1 = at_) ∧ (∀ e ∈ L, e.1 ≠ at_) ∧ undo Y V = c.D (at_ + 1)

theorem Sq.bk {c : Cx} {at_ : Nat} {w X : World} (h : Sq c (c.mo + c.Nb) at_ X) (hk : KpT c.B c.T w X) : ∃ r n, Bk c at_ r n w X ∧ ∃ a cp, X.cell? ⟨c.T, 6, none⟩ = some (.slice a n cp) := by
  obtain ⟨he, _, vI, vT, vS, N, L, S, s, b1, b2, b3, b4, b5, b6, b7⟩ := h
  obtain ⟨L', Y, rfl, l1, l2, l3, l4⟩ := b6.inv b7
  obtain ⟨a, cp, e, _⟩ := own_shape b1.trn
  refine ⟨Y.length, (L' ++ Y).length, ⟨he, hk, vI, vT, vS, _, N, L', Y, S, s, b1, rfl, rfl, b2, b3, b4, b5, l1, l2, l3, l4⟩, a, cp, ?_⟩
  rw [b1.c.cells.2.2.2.2.2.2.1, e]

theorem bk_end {c : Cx} {at_ : Nat} {w X : World} (hat : at_ < c.m) (henv : Env c X) (hkp : KpT c.B c.T w X) {vI vT vS : Value} {V : Bs} {N : Nat} {L : List Tn} {S : List Sp} {s : Nat} (b1 : Tb c.B c.T c.ah c.wd c.mo c.v0 (.slice c.a1 c.m c.c1) at_ vI vT vS V N L S X) (b2 : N ≤ c.Nb) (b3 : (L.length : Int) ≤ c.mo + c.Nb) (b4 : ∀ e ∈ L, e.2.1 < N) (b5 : StOk c S s) (b6 : Lg c.D s (at_ + 1) L) (b7 : V = c.D (at_ + 1)) :
    St c (c.mo + c.Nb) (at_ + 1) (X.setCell ⟨c.T, 4, none⟩ (Z ((at_ : Int) + 1))) ∧ KpT c.B c.T w (X.setCell ⟨c.T, 4, none⟩ (Z ((at_ : Int) + 1))) := by
  subst b7
  have k3 := (KpT.refl (B := c.B) (T := c.T) (W := X)).setT 4 (Z ((at_ : Int) + 1))
  have e : ((at_ + 1 : Nat) : Int) = (at_ : Int) + 1 := by omega
  exact ⟨⟨henv.kpt b1.c k3, hat, vI, vT, vS, N, L, S, s, (b1.rw_.setT b1.c 4 _).tb (by rw [e]; exact b1.c.set4 _) b1.lo, b2, b3, b4, b5, b6⟩, hkp.trans k3⟩

set_option maxHeartbeats 4000000 in
theorem bback_any (c : Cx) (hG : Good c) (at_ : Nat) (hat : at_ < c.m) (w : World) (h : St c (c.mo + c.Nb) at_ w) :
    Calls Try.prog 62 #[.pointer (some ⟨c.T, 0, none⟩)] w fun e w' => (∃ v, e = .returned v) ∧ KpT c.B c.T w w' ∧ St c (c.mo + c.Nb) (at_ + 1) w' := by
  obtain ⟨he, _, vI, vT, vS, N, L, S, s, b1, b2, b3, b4, b5, b6⟩ := h
  obtain ⟨q, hq⟩ : ∃ q, S.length = q + 1 := ⟨S.length - 1, by have := b5.pos; omega⟩
  obtain ⟨sl, hsl, hse⟩ := b5.last
  rw [hq, show q + 1 - 1 = q by omega] at hsl
  have hqm : q ≤ 4294967296 := by have := b5.len; have := hG.m; omega
  have hnb := hG.nb
  have hmo := hG.mo
  have hcm := hG.m
  have hle := b6.le.1
  have hsm : s ≤ c.m := by have := (b5.each _ _ hsl).1; omega
  obtain ⟨gS, cS, rfl, _, hgl⟩ := b1.stp.form (by omega)
  have hcc := own_shape b1.stp
  obtain ⟨_, _, e9, hcS, _⟩ := hcc
  cases e9
  rw [hq] at hcS
  obtain ⟨d0, d1⟩ := scells_at S q _ hsl
  have e0 := b1.stp.cellAt (q * 2) (by omega)
  rw [d0, hse] at e0
  obtain ⟨t0, t1, t2, t3, t4, t5, t6, t7, t8⟩ := b1.c.cells
  rw [hq] at t8
  have HG := hidden hG
  have HE := hidden he
  have HB := hidden b1
  have HB3 := hidden b3
  have HB4 := hidden b4
  have HB5 := hidden b5
  have HB6 := hidden b6
  obtain ⟨T, hT⟩ : ∃ T, c.T = T := ⟨_, rfl⟩
  have HTT := hidden hT
  rw [hT] at t4 t8 ⊢
  clear hG he b1 b3 b4 b5 b6 t0 t1 t2 t3 t5 t6 t7 hT d0 d1 hsl hse
  go_enter Try.func62, Try.ntmps62
  go_wp2_with fail
  go_quiet (fail)
  have HB2 := hidden (HB.out.drewN nq)
  have HE2 := hidden (HE.out.later (below_drewN (Below.refl _ w) nq))
  have HK2 := hidden ((KpT.refl (B := c.B) (T := T) (W := w)).drewN nq)
  clear HB HE t4 t8 e0
  generalize World.drewN w nq = W2 at HB2 HE2 HK2 ⊢
  clear nq
  go_upto_if 20 with fail
  go_cut [20] from 21 to 22 (fun _ wx => Hid (Sq c (c.mo + c.Nb) at_ wx ∧ KpT c.B T w wx))
  case first =>
    by_cases hs : at_ = s
    · subst hs
      have hd : ((at_ : Int) == (at_ : Int)) = true := by simp
      have hL := HB6.out.at_s
      subst hL
      go_wp2_with fail
      have hcall := bagain_any c HG.out at_ W2 HE2.out hat HB2.out HB5.out b2
      rw [HTT.out] at hcall
      refine hcall.mono ?_
      clear hcall
      rintro e w6 ⟨⟨v6, rfl⟩, hk6, hsq6⟩
      have HF := hidden hsq6
      have HK6 := hidden hk6
      clear hk6 hsq6
      go_wp2_with fail
      go_meet
      case rel => exact ⟨HF.out, HK2.out.trans HK6.out⟩
    · have hd : ((at_ : Int) == (s : Int)) = false := by simp; omega
      go_wp2_with fail
      go_meet
      case rel => exact ⟨⟨HE2.out, hat, _, _, _, N, L, S, s, HB2.out, b2, HB3.out, HB4.out, HB5.out, HB6.out, by omega⟩, HK2.out⟩
  case rest =>
    obtain ⟨r0, n0, hbk, aT0, cT0, t6⟩ := hcut.out.1.bk (by rw [HTT.out]; exact hcut.out.2)
    rw [HTT.out] at t6
    have HBK := hidden hbk
    clear hcut hbk HB2 HE2 HK2 HB3 HB4 HB5 HB6
    have HLEN := hidden (show n0 ≤ 137438953472 by
      obtain ⟨_, _, _, _, _, _, N, L, Y, S, s, _, y1, y2, _, y4, _⟩ := HBK.out
      omega)
    go_wp2_with fail
    go_loopg [2] r0 (fun k v wr => ∃ n : Nat, v = .int .i64 n ∧ n ≤ n0 ∧ Hid (∃ r, r ≤ k ∧ Bk c at_ r n w wr))
    case atStart => exact ⟨n0, rfl, Nat.le_refl _, r0, Nat.le_refl _, HBK.out⟩
    case round =>
      clear HBK t6
      obtain ⟨n, rfl, hn0, hst⟩ := hrel
      obtain ⟨r, hrk, henv, hkp, vI, vT, vS, V, N, L, Y, S, s, b1, b2, b3, b4, b5, b6, b7, b8, b9, b10, b11⟩ := hst.out
      clear hst
      have hnb2 := HLEN.out
      rw [HTT.out] at b1
      obtain ⟨aT, cT, rfl, hcT, haT⟩ := own_shape b1.trn
      rw [b3] at hcT
      obtain ⟨t0, t1, t2, t3, t4, t5, t6, t7, t8⟩ := b1.c.cells
      rw [b3] at t6
      have HE := hidden henv
      have HK := hidden (show KpT c.B T w wr by rw [← HTT.out]; exact hkp)
      have HB := hidden b1
      have HR := hidden b2
      have HN := hidden b3
      have HF1 := hidden b5
      have HF2 := hidden b6
      have HF3 := hidden b7
      have HF4 := hidden b8
      have HF5 := hidden b9
      have HF6 := hidden b10
      have HF7 := hidden b11
      clear henv hkp b1 b2 b5 b6 b7 b8 b9 b10 b11 t0 t1 t2 t3 t5 t7 t8 b3
      cases n with
      | zero =>
        obtain ⟨rfl, rfl⟩ : L = [] ∧ Y = [] := by
          have := HN.out
          rw [List.length_append] at this
          exact ⟨List.eq_nil_of_length_eq_zero (by omega), List.eq_nil_of_length_eq_zero (by omega)⟩
        have HB' := hidden HB.out
        rw [show ((0 : Nat) : Int) = 0 from rfl]
        go_wp2_with fail
        go_quiet (fail)
        have HB2 := hidden (HB'.out.drewN nq)
        have HE2 := hidden (HE.out.later (below_drewN (Below.refl _ wr) nq))
        have HK2 := hidden (HK.out.drewN nq)
        clear HB HB' HE HK t4 t6
        generalize World.drewN wr nq = W3 at HB2 HE2 HK2 ⊢
        clear nq
        have t4 := HB2.out.c.cells.2.2.2.2.1
        have tf : ∀ i, W3.frozen? ⟨T, i, none⟩ = false := HB2.out.c.thaw
        have hend := bk_end hat HE2.out (by rw [HTT.out]; exact HK2.out) (by rw [HTT.out]; exact HB2.out) b4 (by have := HF1.out; rw [List.append_nil] at this; exact this) (by have := HF2.out; rw [List.append_nil] at this; exact this) HF3.out HF4.out HF7.out
        have HEND := hidden hend
        clear hend
        go_wp2_with fail
        go_end0
        have hend := HEND.out
        rw [HTT.out] at hend
        exact ⟨⟨_, rfl⟩, hend.2, hend.1⟩
      | succ p =>
        obtain ⟨e, he⟩ : ∃ e, (L ++ Y)[p]? = some e := ⟨(L ++ Y)[p]'(by rw [HN.out]; omega), List.getElem?_eq_getElem _⟩
        obtain ⟨ea, ej, eU⟩ := e
        obtain ⟨gT, rfl⟩ : ∃ gT, aT = some ⟨gT, 0, none⟩ := by
          obtain ⟨g, cp, e, _⟩ := HB.out.trn.form (by rw [HN.out]; omega)
          cases e
          exact ⟨g, rfl⟩
        have htn := HB.out.trn
        obtain ⟨d0, d1, d2⟩ := tcells_at _ p _ he
        have e0 := htn.cellAt (p * 3) (by rw [HN.out]; omega)
        have e1 := htn.cellAt (p * 3 + 1) (by rw [HN.out]; omega)
        have e2 := htn.cellAt (p * 3 + 2) (by rw [HN.out]; omega)
        rw [d0] at e0
        rw [d1] at e1
        rw [d2] at e2
        simp only at e0 e1 e2
        clear htn d0 d1 d2
        have hpI : ((p + 1 : Nat) : Int) = (p : Int) + 1 := by omega
        rw [hpI]
        have HEE := hidden he
        clear he
        by_cases hea : ea = at_
        · subst hea
          have hd : ((ea : Int) == (ea : Int)) = true := by simp
          have hd2 : decide ((p : Int) + 1 > 0) = true := by simp <;> omega
          have hd3 : decide (0 < (p : Int) + 1) = true := by simp <;> omega
          obtain ⟨Y', rfl⟩ : ∃ Y', Y = Y' ++ [(ea, ej, eU)] := by
            have hl := HN.out
            have hx := HEE.out
            rcases List.eq_nil_or_concat Y with h | ⟨Y', e', h⟩
            · subst h
              rw [List.append_nil] at hx
              exact absurd rfl (HF6.out _ (List.mem_of_getElem? hx))
            · refine ⟨Y', ?_⟩
              rw [List.concat_eq_append] at h
              subst h
              rw [← List.append_assoc, List.length_append, List.length_singleton] at hl
              rw [← List.append_assoc, List.getElem?_append_right (by omega), show p - (L ++ Y').length = 0 by omega] at hx
              simp at hx
              rw [hx]
          have hej := HF2.out (ea, ej, eU) (by simp)
          simp only at hej
          obtain ⟨gI, cI, hvI, _, hgI⟩ := HB.out.ids.form (by omega)
          subst hvI
          go_wp2_with fail
          go_quiet (fail)
          have HB2 := hidden (HB.out.drewN nq)
          have HE2 := hidden (HE.out.later (below_drewN (Below.refl _ wr) nq))
          have HK2 := hidden (HK.out.drewN nq)
          have x0 : (wr.drewN nq).cell? ⟨gT, p * 3 + 1, none⟩ = some (Z ej) := e1
          have x1 : (wr.drewN nq).cell? ⟨gT, p * 3 + 2, none⟩ = some (U (Gl.word eU ej)) := e2
          clear HB HE HK t4 t6 e0 e1 e2
          generalize World.drewN wr nq = W3 at HB2 HE2 HK2 x0 x1 ⊢
          clear nq
          obtain ⟨t0, t1, t2, t3, t4, t5, t6, t7, t8⟩ := HB2.out.c.cells
          rw [HN.out] at t6
          have gc : W3.cell? ⟨gI, ej, none⟩ = some (U (Gl.word V ej)) := by rw [HB2.out.ids.cellAt ej (by omega), wcells_at V hej]
          have gf : W3.frozen? ⟨gI, ej, none⟩ = false := HB2.out.ids.frozenAt ej
          have hgt : gI ≠ gT := fun e => by
            have := own_ne HB2.out.ids HB2.out.trn (by decide)
            rcases this with h | h
            · cases h
            · exact h (by rw [e]; rfl)
          have hcI := own_shape HB2.out.ids
          obtain ⟨_, _, e9, hcI, _⟩ := hcI
          cases e9
          obtain ⟨wv, hwv⟩ : ∃ wv, Gl.word eU ej = wv := ⟨_, rfl⟩
          have HWV := hidden hwv
          rw [hwv] at x1
          clear hwv t0 t1 t2 t3 t4 t7 t8
          go_wp2_with fail
          go_region
          obtain ⟨k1, k2⟩ := HB2.out.rw_.word hej eU
          rw [HWV.out] at k1 k2
          have HR4 := hidden k1.drew
          have HC4 := hidden ((HB2.out.c.other (c := gI) (i := ej) (u := .int .u64 wv) (fun e => own_notT HB2.out.c HB2.out.ids (by decide) (by rw [e]; rfl))).drew)
          have HK4 := hidden ((HK2.out.trans (kpt_row HB2.out.ids (Or.inl rfl) k2)).drew)
          have HE4 := hidden (show Env c (W3.setCell ⟨gI, ej, none⟩ (.int .u64 wv)).drew from HE2.out.kpt (by rw [HTT.out]; exact HB2.out.c) (by rw [HTT.out]; exact (kpt_row HB2.out.ids (Or.inl rfl) k2).drew))
          have HLO := hidden HB2.out.lo
          clear k1 k2 HB2 HK2 HE2 x0 x1 t5 t6 gc gf
          generalize World.drew _ = W4 at HR4 HC4 HK4 HE4 ⊢
          have t6 := HC4.out.cells.2.2.2.2.2.2.1
          rw [HN.out] at t6
          have tf : ∀ i, W4.frozen? ⟨T, i, none⟩ = false := HC4.out.thaw
          have HCUT := hidden (show Tb c.B T c.ah c.wd c.mo c.v0 (.slice c.a1 c.m c.c1) ea (.slice (some ⟨gI, 0, none⟩) N cI) (.slice (some ⟨gT, 0, none⟩) p cT) vS (setw V ej eU) N (L ++ Y') S (W4.setCell ⟨T, 6, none⟩ (.slice (some ⟨gT, 0, none⟩) p cT)) by
            have hl := HN.out
            obtain ⟨v', h1, h2⟩ := HR4.out.cutT (k := p) (by rw [hl]; omega)
            rw [h1 _ _ rfl, ← List.append_assoc, List.take_left' (by rw [← List.append_assoc, List.length_append, List.length_singleton] at hl; omega)] at h2
            exact (h2.setT HC4.out 6 _).tb (HC4.out.set6 _) HLO.out)
          have k6 := (KpT.refl (B := c.B) (T := T) (W := W4)).setT 6 (.slice (some ⟨gT, 0, none⟩) p cT)
          have HK6 := hidden (HK4.out.trans k6)
          have HE6 := hidden (show Env c (W4.setCell ⟨T, 6, none⟩ (.slice (some ⟨gT, 0, none⟩) p cT)) from HE4.out.kpt (by rw [HTT.out]; exact HC4.out) (by rw [HTT.out]; exact k6))
          have hr1 : 1 ≤ r := by have := HR.out; rw [List.length_append, List.length_singleton] at this; omega
          clear k6
          go_wp2_with fail
          go_roundg (gk - 1)
          case rel =>
            refine ⟨p, by first | rfl | go_num, by omega, r - 1, by omega, HE6.out, by rw [HTT.out]; exact HK6.out, _, _, vS, _, N, L, Y', S, s, by rw [HTT.out]; exact HCUT.out, ?_, ?_, b4, ?_, ?_, HF3.out, HF4.out, ?_, HF6.out, ?_⟩
            · have := HR.out; rw [List.length_append, List.length_singleton] at this; omega
            · have := HN.out; rw [← List.append_assoc, List.length_append, List.length_singleton] at this; omega
            · have := HF1.out; rw [← List.append_assoc, List.length_append, List.length_singleton] at this; omega
            · intro e he
              refine HF2.out e ?_
              rcases List.mem_append.1 he with he | he
              · exact List.mem_append_left _ he
              · exact List.mem_append_right _ (List.mem_append_left _ he)
            · exact fun e he => HF5.out e (List.mem_append_left _ he)
            · have := HF7.out; rw [undo_app] at this; exact this
          case measure => omega
        · obtain rfl : Y = [] := by
            have hl := HN.out
            have hx := HEE.out
            rcases List.eq_nil_or_concat Y with h | ⟨Y', e', h⟩
            · exact h
            · rw [List.concat_eq_append] at h
              subst h
              rw [← List.append_assoc, List.length_append, List.length_singleton] at hl
              rw [← List.append_assoc, List.getElem?_append_right (by omega), show p - (L ++ Y').length = 0 by omega] at hx
              simp at hx
              exact absurd (by rw [← HF5.out e' (by simp), hx]) hea
          have hd : ((ea : Int) == (at_ : Int)) = false := by simp; omega
          have hd2 : decide ((p : Int) + 1 > 0) = true := by simp <;> omega
          have hd3 : decide (0 < (p : Int) + 1) = true := by simp <;> omega
          have HB' := hidden (by have := HB.out; rw [List.append_nil] at this; exact this)
          go_wp2_with fail
          go_quiet (fail)
          have HB2 := hidden (HB'.out.drewN nq)
          have HE2 := hidden (HE.out.later (below_drewN (Below.refl _ wr) nq))
          have HK2 := hidden (HK.out.drewN nq)
          clear HB HB' HE HK t4 t6 e0 e1 e2
          generalize World.drewN wr nq = W3 at HB2 HE2 HK2 ⊢
          clear nq
          have t4 := HB2.out.c.cells.2.2.2.2.1
          have tf : ∀ i, W3.frozen? ⟨T, i, none⟩ = false := HB2.out.c.thaw
          have hend := bk_end hat HE2.out (by rw [HTT.out]; exact HK2.out) (by rw [HTT.out]; exact HB2.out) b4 (by have := HF1.out; rw [List.append_nil] at this; exact this) (by have := HF2.out; rw [List.append_nil] at this; exact this) HF3.out HF4.out HF7.out
          have HEND := hidden hend
          clear hend
          go_wp2_with fail
          go_end0
          have hend := HEND.out
          rw [HTT.out] at hend
          exact ⟨⟨_, rfl⟩, hend.2, hend.1⟩

end Go.Proofs.Ytmbalnjobcgpkaa
