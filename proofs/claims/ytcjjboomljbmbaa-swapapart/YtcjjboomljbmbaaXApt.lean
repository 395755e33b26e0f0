
/-
  What the program's own apart answers at any two lists of steps that are right by themselves and agree on the middle; conditions: the lists' and the texts' lengths.
-/
import Derived.Test.YtcjjboomljbmbaaXMeet
import Derived.Test.YtcjjboomljbmbaaXOrd
namespace Go.Proofs.Ytcjjboomljbmbaa
open Go.RowKit Go.Proofs.Ytcjjboomljbmbaa.Ln Go.Proofs.Ytcjjboomljbmbaa.Ol

theorem own_ne {W : World} {B : Nat} {va : Value} {n : Nat} {cs : List Value} (h : W.ownsRow B 41 3 va n cs) {c : Nat} {t : TypeId} {v : Value} (hc : Boxed W c t v) (ht : t ≠ 41) : ∀ k, va.ownBlock = some k → k ≠ c := fun k hk e => (hc.not_row ht h) (by rw [hk, e])
theorem RL.rowc {w0 W : World} {b : Nat} {P : List Oq} (h : RL w0 W b P) : ∃ v g, RowC W b v g := by
  obtain ⟨v, _, g, h1, _⟩ := h
  exact ⟨v, g, h1⟩
theorem own_row {W : World} {B : Nat} {va : Value} {n : Nat} {cs : List Value} (h : W.ownsRow B 41 3 va n cs) {w0 : World} {b : Nat} {P : List Oq} (hb : RL w0 W b P) : ∀ k, va.ownBlock = some k → k ≠ b := fun k hk e => by
  obtain ⟨v, g, r1⟩ := hb.rowc
  obtain ⟨cur, hc⟩ := owns_cells h hk
  subst e
  unfold RowC at r1
  rw [hc] at r1
  simp at r1
/-- what apart keeps in memory: the boxes hold xa and xb, the two rows are va and vb now -/
structure TA (w : World) (vp vq : Value) (A B : List Oq) (n : Int) (r : Rw) (xa xb va vb : Value) (W : World) : Prop where
  bel : Below w.heap.size w W
  res0 : Boxed W w.heap.size 22 (.slice none 0 0)
  res1 : Boxed W (w.heap.size + 1) 22 (.slice none 0 0)
  res2 : Boxed W (w.heap.size + 1 + 1) 4 (.bool false)
  b0 : Boxed W (w.heap.size + 1 + 1 + 1) 22 xa
  b1 : Boxed W (w.heap.size + 1 + 1 + 1 + 1) 22 xb
  st : Boxed W (w.heap.size + 1 + 1 + 1 + 1 + 1) 3 (.int .i64 n)
  k1 : Boxed W (w.heap.size + 1 + 1 + 1 + 1 + 1 + 1) 22 vp
  k2 : Boxed W (w.heap.size + 1 + 1 + 1 + 1 + 1 + 1 + 1) 22 vq
  rows : ∀ b1 b2 P Q, r = some (b1, b2, P, Q) → RL w W b1 P ∧ RL w W b2 Q ∧ w.heap.size ≤ b1 ∧ w.heap.size ≤ b2
  oa : W.ownsRow w.heap.size 41 3 va A.length (cellsO A)
  ob : W.ownsRow w.heap.size 41 3 vb B.length (cellsO B)
  ab : ∀ k, va.ownBlock = some k → vb.ownBlock ≠ some k
section
variable {w W W' : World} {vp vq xa xb va vb : Value} {A B : List Oq} {n : Int} {r : Rw}
theorem TA.later (h : TA w vp vq A B n r xa xb va vb W) (hb : Below W.heap.size W W') : TA w vp vq A B n r xa xb va vb W' :=
  ⟨h.bel.trans (hb.mono h.bel.size), box_later h.res0 hb, box_later h.res1 hb, box_later h.res2 hb, box_later h.b0 hb, box_later h.b1 hb, box_later h.st hb, box_later h.k1 hb, box_later h.k2 hb, fun b1 b2 P Q e => by obtain ⟨h1, h2, h3⟩ := h.rows b1 b2 P Q e; exact ⟨h1.later hb, h2.later hb, h3⟩, owns_later h.oa hb, owns_later h.ob hb, h.ab⟩
theorem TA.putObj (h : TA w vp vq A B n r xa xb va vb W) {l : Nat} {o : Obj} (o' : Obj) (hw : w.heap.size ≤ l) (hl : W.heap[l]? = some o) (hc : o.isCells = false) : TA w vp vq A B n r xa xb va vb (W.putObj l o') :=
  have k : ∀ {c : Nat} {t : TypeId} {v : Value}, Boxed W c t v → Boxed (W.putObj l o') c t v := fun hb => box_keep hb (World.putObj_heap_other (box_noncells hb hl hc))
  ⟨bel_put h.bel _ hw, k h.res0, k h.res1, k h.res2, k h.b0, k h.b1, k h.st, k h.k1, k h.k2,
    fun b1 b2 P Q e => by
      obtain ⟨h1, h2, h3⟩ := h.rows b1 b2 P Q e
      obtain ⟨v1, g1, r1⟩ := h1.rowc
      obtain ⟨v2, g2, r2⟩ := h2.rowc
      exact ⟨h1.keep fun _ => World.putObj_heap_other (row_noncells r1 hl hc), h2.keep fun _ => World.putObj_heap_other (row_noncells r2 hl hc), h3⟩,
    ownsRow_putObj h.oa _ hl hc, ownsRow_putObj h.ob _ hl hc, h.ab⟩
/-- what a box takes leaves all else as it was -/
theorem TA.keepR (h : TA w vp vq A B n r xa xb va vb W) {c : Nat} {t : TypeId} {v : Value} (hc : Boxed W c t v) (ht : t ≠ 41) (u : Value) :
    (∀ b1 b2 P Q, r = some (b1, b2, P, Q) → RL w (W.setCell ⟨c, 0, none⟩ u) b1 P ∧ RL w (W.setCell ⟨c, 0, none⟩ u) b2 Q ∧ w.heap.size ≤ b1 ∧ w.heap.size ≤ b2) ∧ (W.setCell ⟨c, 0, none⟩ u).ownsRow w.heap.size 41 3 va A.length (cellsO A) ∧ (W.setCell ⟨c, 0, none⟩ u).ownsRow w.heap.size 41 3 vb B.length (cellsO B) := by
  refine ⟨fun b1 b2 P Q e => ?_, owns_same h.oa fun k hk => heap_setCell_ne _ _ _ _ _ (own_ne h.oa hc ht k hk), owns_same h.ob fun k hk => heap_setCell_ne _ _ _ _ _ (own_ne h.ob hc ht k hk)⟩
  obtain ⟨h1, h2, h3⟩ := h.rows b1 b2 P Q e
  obtain ⟨v1, g1, r1⟩ := h1.rowc
  obtain ⟨v2, g2, r2⟩ := h2.rowc
  exact ⟨h1.other (row_box r1 hc), h2.other (row_box r2 hc), h3⟩
theorem TA.setN (h : TA w vp vq A B n r xa xb va vb W) (n' : Int) : TA w vp vq A B n' r xa xb va vb (W.setCell ⟨w.heap.size + 1 + 1 + 1 + 1 + 1, 0, none⟩ (.int .i64 n')) :=
  have k : ∀ {c : Nat} {t : TypeId} {v : Value}, c ≠ w.heap.size + 1 + 1 + 1 + 1 + 1 → Boxed W c t v → Boxed (W.setCell ⟨w.heap.size + 1 + 1 + 1 + 1 + 1, 0, none⟩ (.int .i64 n')) c t v := fun hc hb => box_keep hb (heap_setCell_ne _ _ _ _ _ hc)
  have q := h.keepR h.st (by decide) (.int .i64 n')
  ⟨bel_set h.bel (by omega), k (by omega) h.res0, k (by omega) h.res1, k (by omega) h.res2, k (by omega) h.b0, k (by omega) h.b1, Boxed.set _ h.st, k (by omega) h.k1, k (by omega) h.k2, q.1, q.2.1, q.2.2, h.ab⟩
theorem TA.set0 (h : TA w vp vq A B n r xa xb va vb W) (u : Value) : TA w vp vq A B n r u xb va vb (W.setCell ⟨w.heap.size + 1 + 1 + 1, 0, none⟩ u) :=
  have k : ∀ {c : Nat} {t : TypeId} {v : Value}, c ≠ w.heap.size + 1 + 1 + 1 → Boxed W c t v → Boxed (W.setCell ⟨w.heap.size + 1 + 1 + 1, 0, none⟩ u) c t v := fun hc hb => box_keep hb (heap_setCell_ne _ _ _ _ _ hc)
  have q := h.keepR h.b0 (by decide) u
  ⟨bel_set h.bel (by omega), k (by omega) h.res0, k (by omega) h.res1, k (by omega) h.res2, Boxed.set _ h.b0, k (by omega) h.b1, k (by omega) h.st, k (by omega) h.k1, k (by omega) h.k2, q.1, q.2.1, q.2.2, h.ab⟩
theorem TA.set1 (h : TA w vp vq A B n r xa xb va vb W) (u : Value) : TA w vp vq A B n r xa u va vb (W.setCell ⟨w.heap.size + 1 + 1 + 1 + 1, 0, none⟩ u) :=
  have k : ∀ {c : Nat} {t : TypeId} {v : Value}, c ≠ w.heap.size + 1 + 1 + 1 + 1 → Boxed W c t v → Boxed (W.setCell ⟨w.heap.size + 1 + 1 + 1 + 1, 0, none⟩ u) c t v := fun hc hb => box_keep hb (heap_setCell_ne _ _ _ _ _ hc)
  have q := h.keepR h.b1 (by decide) u
  ⟨bel_set h.bel (by omega), k (by omega) h.res0, k (by omega) h.res1, k (by omega) h.res2, k (by omega) h.b0, Boxed.set _ h.b1, k (by omega) h.st, k (by omega) h.k1, k (by omega) h.k2, q.1, q.2.1, q.2.2, h.ab⟩
theorem TA.but2 (h : TA w vp vq A B n r xa xb va vb W) {b1 b2 : Nat} {P1 Q1 P2 Q2 : List Oq} (hr : r = some (b1, b2, P1, Q1)) (hb : But2 b1 b2 W W') (h1 : RL w W' b1 P2) (h2 : RL w W' b2 Q2) : TA w vp vq A B n (some (b1, b2, P2, Q2)) xa xb va vb W' ∧ KeepsOthers W W' := by
  obtain ⟨q1, q2, l1, l2⟩ := h.rows b1 b2 P1 Q1 hr
  obtain ⟨v1, g1, r1⟩ := q1.rowc
  obtain ⟨v2, g2, r2⟩ := q2.rowc
  have hk : ∀ {c : Nat} {t : TypeId} {v : Value}, Boxed W c t v → Boxed W' c t v := fun hc => box_keep hc (hb.block _ hc.lt (box_row hc r1) (box_row hc r2))
  have ho : ∀ {v : Value} {C : List Oq}, W.ownsRow w.heap.size 41 3 v C.length (cellsO C) → W'.ownsRow w.heap.size 41 3 v C.length (cellsO C) := fun {v C} h4 =>
    owns_same h4 fun k hk => hb.block k (h4.lt k hk).2 (own_row h4 q1 k hk) (own_row h4 q2 k hk)
  refine ⟨⟨But2.bel h.bel hb l1 l2 h.bel.size, hk h.res0, hk h.res1, hk h.res2, hk h.b0, hk h.b1, hk h.st, hk h.k1, hk h.k2, ?_, ho h.oa, ho h.ob, h.ab⟩, hb.size, ?_⟩
  · intro c1 c2 P Q e
    cases e
    exact ⟨h1, h2, l1, l2⟩
  · intro k o hk hc
    refine (hb.block k (Array.getElem?_eq_some_iff.1 hk).1 (fun e => ?_) (fun e => ?_)).trans hk
    · subst e; exact row_noncells r1 hk hc rfl
    · subst e; exact row_noncells r2 hk hc rfl
/-- a row of one's own is added to: all else as it was -/
theorem TA.grow (h : TA w vp vq A B n r xa xb va vb W) {v v' : Value} {C : List Oq} (hC : W.ownsRow w.heap.size 41 3 v C.length (cellsO C)) (ha : Adds W W' v v') :
    Below w.heap.size w W' ∧ (∀ {c : Nat} {t : TypeId} {u : Value}, t ≠ 41 → Boxed W c t u → Boxed W' c t u) ∧ (∀ b1 b2 P Q, r = some (b1, b2, P, Q) → RL w W' b1 P ∧ RL w W' b2 Q ∧ w.heap.size ≤ b1 ∧ w.heap.size ≤ b2) := by
  refine ⟨h.bel.trans (adds_belS h.bel.size ha fun k hk => (hC.lt k hk).1), fun ht hb => hb.kept ha.1 (hb.not_row ht hC), fun b1 b2 P Q e => ?_⟩
  obtain ⟨h1, h2, h3⟩ := h.rows b1 b2 P Q e
  exact ⟨h1.keep fun hl => ha.1.block _ hl fun e => own_row hC h1 _ e.symm rfl, h2.keep fun hl => ha.1.block _ hl fun e => own_row hC h2 _ e.symm rfl, h3⟩
theorem TA.first (h : TA w vp vq A B n r xa xb va vb W) {A' : List Oq} {va' : Value} (ha : Adds W W' va va') (ho : W'.ownsRow w.heap.size 41 3 va' A'.length (cellsO A')) : TA w vp vq A' B n r xa xb va' vb W' := by
  obtain ⟨g1, g2, g3⟩ := h.grow h.oa ha
  exact ⟨g1, g2 (by decide) h.res0, g2 (by decide) h.res1, g2 (by decide) h.res2, g2 (by decide) h.b0, g2 (by decide) h.b1, g2 (by decide) h.st, g2 (by decide) h.k1, g2 (by decide) h.k2, g3, ho, keptS h.ob ha (symmS h.ab), symmS (apartS h.ob ha (symmS h.ab))⟩
theorem TA.second (h : TA w vp vq A B n r xa xb va vb W) {B' : List Oq} {vb' : Value} (ha : Adds W W' vb vb') (ho : W'.ownsRow w.heap.size 41 3 vb' B'.length (cellsO B')) : TA w vp vq A B' n r xa xb va vb' W' := by
  obtain ⟨g1, g2, g3⟩ := h.grow h.ob ha
  exact ⟨g1, g2 (by decide) h.res0, g2 (by decide) h.res1, g2 (by decide) h.res2, g2 (by decide) h.b0, g2 (by decide) h.b1, g2 (by decide) h.st, g2 (by decide) h.k1, g2 (by decide) h.k2, g3, keptS h.oa ha h.ab, ho, apartS h.oa ha h.ab⟩
/-- what is no cells lies as it lay, where a row is added to -/
theorem adds_others {v v' : Value} {B0 e size k : Nat} {cs : List Value} (h : W.ownsRow B0 e size v k cs) (ha : Adds W W' v v') : KeepsOthers W W' :=
  KeepsOthers.of_grownBy ha.1 fun j o ej hj => by
    obtain ⟨cur, hc⟩ := owns_cells h ej
    rw [hc] at hj; cases hj; rfl
/-- a block of one's own is left as it was, where a row is added to -/
theorem adds_block {v v' : Value} {B0 size k : Nat} {cs : List Value} (h : W.ownsRow B0 41 size v k cs) (ha : Adds W W' v v') {b : Nat} {o : Obj} (hb : W.heap[b]? = some o) (hne : ∀ cur, o ≠ .cells cur 41 (0, 0)) : W'.heap[b]? = some o :=
  (ha.1.block b (Array.getElem?_eq_some_iff.1 hb).1 fun e => by
    obtain ⟨cur, hc⟩ := owns_cells h e.symm
    rw [hc] at hb; cases hb; exact hne _ rfl).trans hb
end
theorem ev {a : Act} {k : Nat} {v : Value} (h : a.tmps.getD k undef = v) : a.tmps[k]?.getD undef = v := by rw [← Array.getD_eq_getD_getElem?]; exact h
theorem eva {a : Act} {k : Nat} {v : Value} (h : a.tmps.getD k undef = v) : a.eval (.tmp k) = v := h
section
variable {a : Act} {W : World} {o : Oper} {p q b : Nat}
theorem sem_load_ops (ho : o.op = .load 22 (.tmp p)) {v : Value} (hp : a.tmps.getD p undef = .pointer (some ⟨b, 0, none⟩)) (hb : Boxed W b 22 v) (hv : ∃ ao n c, v = .slice ao n c) : (execOp a.eval o).run Try.prog W = .ok (.value v) W := by
  have q0 := hb.cell
  obtain ⟨ao, n, c, rfl⟩ := hv
  simp [execOp, ho, ev hp, go_sem, q0]
theorem sem_load_op (ho : o.op = .load 41 (.tmp p)) {z : Oq} (hp : a.tmps.getD p undef = .pointer (some ⟨b, 0, none⟩)) (hb : OpC W b z.1 z.2.1 z.2.2) : (execOp a.eval o).run Try.prog W = .ok (.value (opV z)) W := by
  obtain ⟨q0, q1, q2⟩ := hb.cells
  unfold opV
  simp [execOp, ho, ev hp, go_sem, q0, q1, q2]
theorem sem_load_mt (ho : o.op = .load 67 (.tmp p)) {m : Oq × Oq} (hp : a.tmps.getD p undef = .pointer (some ⟨b, 0, none⟩)) (hb : MtC W b (.int .i64 m.1.1) (.int .i64 m.1.2.1) (.string ⟨m.1.2.2.toArray⟩) (.int .i64 m.2.1) (.int .i64 m.2.2.1) (.string ⟨m.2.2.2.toArray⟩)) : (execOp a.eval o).run Try.prog W = .ok (.value (mV m)) W := by
  obtain ⟨q0, q1, q2, q3, q4, q5⟩ := hb.cells
  unfold mV
  simp [execOp, ho, ev hp, go_sem, q0, q1, q2, q3, q4, q5]
theorem sem_store_ops (ho : o.op = .store 22 (.tmp p) (.tmp q)) {v u : Value} (hp : a.tmps.getD p undef = .pointer (some ⟨b, 0, none⟩)) (hq : a.tmps.getD q undef = v) (hb : Boxed W b 22 u) (hv : ∃ ao n c, v = .slice ao n c) : (execOp a.eval o).run Try.prog W = .ok .skip (W.setCell ⟨b, 0, none⟩ v) := by
  have q0 := hb.cell
  have q1 := hb.frozen
  obtain ⟨ao, n, c, rfl⟩ := hv
  simp [execOp, ho, ev hp, ev hq, go_sem, q0, q1]
theorem sem_alloc_op (ho : o.op = .alloc 41) : (execOp a.eval o).run Try.prog W = .ok (.value (.pointer (some ⟨W.heap.size, 0, none⟩))) (W.alloc (opO 0 0 [])) := by
  unfold opO
  simp [execOp, ho, go_sem]
theorem sem_assign (ho : o.op = .assign (.tmp q)) {v : Value} (hq : a.tmps.getD q undef = v) : (execOp a.eval o).run Try.prog W = .ok (.value v) W := by
  simp [execOp, ho, eva hq]
theorem sem_store_op (ho : o.op = .store 41 (.tmp p) (.tmp q)) {z x : Oq} (hp : a.tmps.getD p undef = .pointer (some ⟨b, 0, none⟩)) (hq : a.tmps.getD q undef = opV z) (hb : OpC W b x.1 x.2.1 x.2.2) : (execOp a.eval o).run Try.prog W = .ok .skip (((W.setCell ⟨b, 0, none⟩ (.int .i64 z.1)).setCell ⟨b, 1, none⟩ (.int .i64 z.2.1)).setCell ⟨b, 2, none⟩ (.string ⟨z.2.2.toArray⟩)) := by
  obtain ⟨q0, q1, q2⟩ := hb.cells
  have f0 := hb.thaw 0
  have f1 := hb.thaw 1
  have f2 := hb.thaw 2
  simp [execOp, ho, ev hp, ev hq, opV, go_sem, q0, q1, q2, f0, f1, f2]
theorem sem_slice_op (ho : o.op = .buildSlice 22 1 #[(0, .tmp q)]) {z : Oq} (hq : a.tmps.getD q undef = opV z) : (execOp a.eval o).run Try.prog W = .ok (.value (.slice (some ⟨W.heap.size, 0, none⟩) 1 1)) (W.alloc (opO z.1 z.2.1 z.2.2)) := by
  simp [execOp, ho, ev hq, opV, opO, go_sem]
theorem sem_append_ops {B : Nat} {v u : Value} {xs ys : List Oq} (ho : o.op = .call { callee := .builtin .append, args := #[.tmp p, .tmp q], argTypes := #[22, 22] }) (hp : a.tmps.getD p undef = v) (hq : a.tmps.getD q undef = u) (hown : W.ownsRow B 41 3 v xs.length (cellsO xs)) (hu : OpsAt W u ys) (hl : xs.length + ys.length ≤ 4398046511104) (hB : B ≤ W.heap.size) :
    ∃ v' W', (execOp a.eval o).run Try.prog W = .ok (.value v') W' ∧ W'.ownsRow B 41 3 v' (xs ++ ys).length (cellsO (xs ++ ys)) ∧ Adds W W' v v' := by
  obtain ⟨v', W', hrun, r1, r2⟩ := run_append_ops W o.type B v u xs ys hown hu hl hB
  refine ⟨v', W', ?_, r1, r2⟩
  simp [execOp, ho, resolve, invoke, builtin, eva hp, eva hq, hrun, Result.andThen]
theorem sem_call_told (ho : o.op = .call { callee := .value (.func 42), args := #[.tmp q], argTypes := #[67] }) {v : Value} (hq : a.tmps.getD q undef = v) : (execOp a.eval o).run Try.prog W = .ok (.enter 42 #[v]) W := by
  have hn : ¬ Try.f42.name = "runtime.NumGoroutine" := by
    have h : (Try.f42.name == "runtime.NumGoroutine") = false := by kernel_rfl
    simpa using h
  have hb : ¬ Try.f42.body = none := by
    have h : Try.f42.body.isNone = false := by kernel_rfl
    intro e
    rw [e] at h
    cases h
  simp [execOp, ho, ev hq, go_sem, callFunc, Try.func42, hn, hb]
theorem sem_call_owner (ho : o.op = .call { callee := .value (.func 43), args := #[.tmp q], argTypes := #[67] }) {v : Value} (hq : a.tmps.getD q undef = v) : (execOp a.eval o).run Try.prog W = .ok (.enter 43 #[v]) W := by
  have hn : ¬ Try.f43.name = "runtime.NumGoroutine" := by
    have h : (Try.f43.name == "runtime.NumGoroutine") = false := by kernel_rfl
    simpa using h
  have hb : ¬ Try.f43.body = none := by
    have h : Try.f43.body.isNone = false := by kernel_rfl
    intro e
    rw [e] at h
    cases h
  simp [execOp, ho, ev hq, go_sem, callFunc, Try.func43, hn, hb]
theorem sem_call_beside {x : Value} (ho : o.op = .call { callee := .value (.func 44), args := #[.tmp p, .tmp q, .const x], argTypes := #[22, 41, 3] }) {v u : Value} (hp : a.tmps.getD p undef = v) (hq : a.tmps.getD q undef = u) : (execOp a.eval o).run Try.prog W = .ok (.enter 44 #[v, u, x]) W := by
  have hn : ¬ Try.f44.name = "runtime.NumGoroutine" := by
    have h : (Try.f44.name == "runtime.NumGoroutine") = false := by kernel_rfl
    simpa using h
  have hb : ¬ Try.f44.body = none := by
    have h : Try.f44.body.isNone = false := by kernel_rfl
    intro e
    rw [e] at h
    cases h
  simp [execOp, ho, ev hp, ev hq, go_sem, callFunc, Try.func44, hn, hb]
end
theorem schanges_any (x : Oq) (w : World) : Calls Try.prog 63 #[opV x] w fun e w' => e = .returned (.bool (chg x)) ∧ Below w.heap.size w w' := by
  obtain ⟨x1, x2, x3⟩ := x
  have HB := hidden (bel_alloc (Below.refl w.heap.size w) (opO x1 x2 x3))
  unfold opV
  by_cases h : x1 = 3
  · subst h
    go_enter Try.func63, Try.ntmps63
    go_wp2_with fail
    go_ret
    exact ⟨by unfold chg; rfl, HB.out⟩
  · have hb : (x1 == 3) = false := by simpa using h
    have HM := hidden (show chg (x1, x2, x3) = (x1 == 4) by simp only [chg, hb, Bool.false_or])
    go_enter Try.func63, Try.ntmps63
    go_wp2_with fail
    go_ret
    exact ⟨by rw [HM.out]; rfl, HB.out⟩
set_option maxHeartbeats 2000000 in
theorem owner_any (m : Oq × Oq) (w : World) : Calls Try.prog 43 #[mV m] w fun e w' => e = .returned (.int .i64 (whs m)) ∧ Below w.heap.size w w' := by
  obtain ⟨⟨x1, x2, x3⟩, ⟨y1, y2, y3⟩⟩ := m
  have HB := hidden (bel_alloc (Below.refl w.heap.size w) (mtO ((x1, x2, x3), (y1, y2, y3))))
  have HM := hidden (MtC.new w ((x1, x2, x3), (y1, y2, y3)))
  unfold mtO at HB HM
  unfold mV
  obtain ⟨b, hb⟩ : ∃ b, chg (x1, x2, x3) = b := ⟨_, rfl⟩
  obtain ⟨c, hc⟩ : ∃ c, chg (y1, y2, y3) = c := ⟨_, rfl⟩
  have HX := hidden hb
  have HY := hidden hc
  clear hb hc
  go_enter Try.func43, Try.ntmps43
  go_wp2_with fail
  refine (schanges_any (x1, x2, x3) _).mono ?_
  rintro e w2 ⟨rfl, hb2⟩
  rw [HX.out]
  have HB2 := hidden (HB.out.trans (hb2.mono HB.out.size))
  have HM2 := hidden (HM.out.later hb2)
  clear hb2 HB HM
  obtain ⟨m0, m1, m2, m3, m4, m5⟩ := HM2.out.cells
  cases b with
  | false =>
    go_wp2_with fail
    refine (schanges_any (y1, y2, y3) _).mono ?_
    rintro e w3 ⟨rfl, hb3⟩
    rw [HY.out]
    have HB3 := hidden (HB2.out.trans (hb3.mono HB2.out.size))
    clear hb3 HB2
    cases c with
    | false =>
      have HW := hidden (show whs ((x1, x2, x3), (y1, y2, y3)) = 0 by unfold whs; rw [HX.out, HY.out]; rfl)
      go_wp2_with fail
      go_ret
      exact ⟨by rw [HW.out]; rfl, HB3.out⟩
    | true =>
      have HW := hidden (show whs ((x1, x2, x3), (y1, y2, y3)) = 2 by unfold whs; rw [HX.out, HY.out]; rfl)
      go_wp2_with fail
      go_ret
      exact ⟨by rw [HW.out]; rfl, HB3.out⟩
  | true =>
    go_wp2_with fail
    refine (schanges_any (y1, y2, y3) _).mono ?_
    rintro e w3 ⟨rfl, hb3⟩
    rw [HY.out]
    have HB3 := hidden (HB2.out.trans (hb3.mono HB2.out.size))
    clear hb3 HB2
    cases c with
    | false =>
      have HW := hidden (show whs ((x1, x2, x3), (y1, y2, y3)) = 1 by unfold whs; rw [HX.out, HY.out]; rfl)
      go_wp2_with fail
      go_ret
      exact ⟨by rw [HW.out]; rfl, HB3.out⟩
    | true =>
      have HW := hidden (show whs ((x1, x2, x3), (y1, y2, y3)) = 3 by unfold whs; rw [HX.out, HY.out]; rfl)
      go_wp2_with fail
      go_ret
      exact ⟨by rw [HW.out]; rfl, HB3.out⟩
/-- what a change of the one is to the other, at the end of a row of one's own -/
def bes (there : Int) (x : Oq) : List Oq := if x.1 = there then [(2, x.2.1, x.2.2)] else []
set_option maxHeartbeats 2000000 in
theorem beside_any (B : Nat) (v : Value) (xs : List Oq) (x : Oq) (there : Int) (w : World) (hown : w.ownsRow B 41 3 v xs.length (cellsO xs)) (hB : B ≤ w.heap.size) (hl : xs.length ≤ 2199023255552) :
    Calls Try.prog 44 #[v, opV x, .int .i64 there] w fun e w' => ∃ v', e = .returned v' ∧ w'.ownsRow B 41 3 v' (xs ++ bes there x).length (cellsO (xs ++ bes there x)) ∧ Adds w w' v v' := by
  obtain ⟨x1, x2, x3⟩ := x
  have HO := hidden hown
  obtain ⟨a1, n1, c1, hv⟩ : ∃ a n c, v = .slice a n c := by obtain ⟨a, c, e⟩ := (OpsAt.of_owns hown).shape; exact ⟨_, _, _, e⟩
  subst hv
  clear hown
  unfold opV
  by_cases h : x1 = there
  · subst h
    have HE := hidden (show bes x1 (x1, x2, x3) = [(2, x2, x3)] by unfold bes; rw [if_pos rfl])
    have HC0 := hidden (OpC.new w x1 x2 x3)
    unfold opO at HC0
    go_enter Try.func44, Try.ntmps44
    go_wp2_with (at_builtin; go_must (refine wpList_append_ops _ (by go_simp) _ _ rfl B (.slice a1 n1 c1) (.slice (some ⟨w.heap.size + 1, 0, none⟩) 1 1) xs [(2, x2, x3)] rfl rfl (owns_later HO.out (by (with_reducible (repeat (first | exact Below.refl _ _ | exact Below.refl _ _ | apply bel_alloc | apply bel_put | apply bel_set | apply Below.drew | apply below_drewN | assumption | omega))))) (ops_oneAt _ _ _ _ _ (by simp)) (by simp; omega) (by simp; omega) ?_; intro v9 w9 hown9 hadd9; have HO9 := hidden hown9; have HA9 := hidden hadd9; clear hown9 hadd9))
    go_ret
    refine ⟨_, rfl, by rw [HE.out]; exact HO9.out, ?_⟩
    exact (Adds.later (Adds.refl w _) (by (with_reducible (repeat (first | exact Below.refl _ _ | exact Below.refl _ _ | apply bel_alloc | apply bel_put | apply bel_set | apply Below.drew | apply below_drewN | assumption | omega))))).step HA9.out.1 (HA9.out.2.imp id fun ⟨k, e, hk⟩ => ⟨k, e, by simpa using hk⟩)
  · have hb : (x1 == there) = false := by simpa using h
    have hb2 : (x1 != there) = true := by simpa using h
    have HE := hidden (show bes there (x1, x2, x3) = [] by unfold bes; rw [if_neg h])
    have HB := hidden (bel_alloc (Below.refl w.heap.size w) (opO x1 x2 x3))
    unfold opO at HB
    go_enter Try.func44, Try.ntmps44
    go_wp2_with fail
    go_ret
    exact ⟨_, rfl, by rw [HE.out, List.append_nil]; exact owns_later HO.out HB.out, Adds.later (Adds.refl w _) HB.out⟩
/-- the first slots of a frame are as they were -/
structure Kp (n : Nat) (a a' : Act) : Prop where
  size : a'.tmps.size = 59
  defers : a'.defers = a.defers
  low : ∀ k, k < n → a'.tmps.getD k undef = a.tmps.getD k undef
theorem put_size (a : Act) (k : Nat) (v : Value) : (a.put (some k) v).tmps.size = a.tmps.size := by simp [Act.put]
theorem put_self {a : Act} {k : Nat} (v : Value) (h : k < a.tmps.size) : (a.put (some k) v).tmps.getD k undef = v := by simp [Act.put, Array.getD, h]
theorem put_ne {a : Act} {k j : Nat} (v : Value) (h : j ≠ k) : (a.put (some k) v).tmps.getD j undef = a.tmps.getD j undef := by
  simp only [Act.put, Array.getD_eq_getD_getElem?, Array.getElem?_setIfInBounds_ne (Ne.symm h)]
theorem Kp.put {n : Nat} {a a' : Act} (h : Kp n a a') {k : Nat} (v : Value) (hk : n ≤ k) : Kp n a (a'.put (some k) v) :=
  ⟨(put_size _ _ _).trans h.size, h.defers, fun j hj => (put_ne v (by omega)).trans (h.low j hj)⟩
theorem put_of {a : Act} {k j : Nat} {v u : Value} (h : j ≠ k) (hu : a.tmps.getD j undef = u) : (a.put (some k) v).tmps.getD j undef = u := (put_ne v h).trans hu
theorem not_done {b : Bool} {p : Prop} (h : b = false) (hb : b = true) : p := by rw [h] at hb; cases hb
/-- one step in a slice of its own, in a block that is neither row's -/
def Sl (W : World) (v : Value) (z : Oq) (va vb : Value) : Prop := ∃ b, v = .slice (some ⟨b, 0, none⟩) 1 1 ∧ OpC W b z.1 z.2.1 z.2.2 ∧ (∀ k, va.ownBlock = some k → k ≠ b) ∧ ∀ k, vb.ownBlock = some k → k ≠ b
section
variable {w W W' W0 : World} {vp vq va vb va' vb' v : Value} {A B A' B' : List Oq} {n : Int} {r : Rw} {z : Oq} {T : Nat}
theorem OpC.adds {x1 x2 : Int} {x3 : Tx} {b : Nat} {u u' : Value} (h : OpC W b x1 x2 x3) (ha : Adds W W' u u') (hn : ∀ k, u.ownBlock = some k → k ≠ b) : OpC W' b x1 x2 x3 :=
  h.keep (ha.1.block b h.lt fun e => hn b e.symm rfl)
theorem Sl.new {xa xb : Value} (h : TA w vp vq A B n r xa xb va vb W) (z : Oq) : Sl (W.alloc (opO z.1 z.2.1 z.2.2)) (.slice (some ⟨W.heap.size, 0, none⟩) 1 1) z va vb :=
  ⟨_, rfl, OpC.new W z.1 z.2.1 z.2.2, fun k hk => by have := (h.oa.lt k hk).2; omega, fun k hk => by have := (h.ob.lt k hk).2; omega⟩
theorem Sl.later (h : Sl W v z va vb) (hb : Below W.heap.size W W') : Sl W' v z va vb := by
  obtain ⟨b, h1, h2, h3⟩ := h
  exact ⟨b, h1, h2.later hb, h3⟩
theorem Sl.add1 (h : Sl W v z va vb) (ha : Adds W W' va va') : Sl W' v z va' vb := by
  obtain ⟨b, h1, h2, h3, h4⟩ := h
  exact ⟨b, h1, h2.adds ha h3, apartOne ha h2.lt h3, h4⟩
theorem Sl.add2 (h : Sl W v z va vb) (ha : Adds W W' vb vb') : Sl W' v z va vb' := by
  obtain ⟨b, h1, h2, h3, h4⟩ := h
  exact ⟨b, h1, h2.adds ha h4, h3, apartOne ha h2.lt h4⟩
theorem Sl.put {a : Act} {j : Nat} (h : Sl W (a.tmps.getD j undef) z va vb) {k : Nat} (u : Value) (hj : j ≠ k) : Sl W ((a.put (some k) u).tmps.getD j undef) z va vb := by rw [put_ne u hj]; exact h
theorem Sl.putn {a : Act} (h : Sl W v z va vb) {k : Nat} (hk : k < a.tmps.size) : Sl W ((a.put (some k) v).tmps.getD k undef) z va vb := by rw [put_self v hk]; exact h
theorem Sl.ops (h : Sl W v z va vb) : OpsAt W v [z] := by
  obtain ⟨b, rfl, h2, _⟩ := h
  obtain ⟨q0, q1, q2⟩ := h2.cells
  refine Or.inr ⟨b, 0, 1, rfl, Nat.le_refl _, h2.lt, fun j e he => ?_⟩
  cases j with
  | zero => cases he; exact ⟨q0, q1, q2⟩
  | succ j => cases he
/-- what holds within a round's last region: what is added to either row, and what is kept of it -/
structure MI (w : World) (vp vq : Value) (A B A' B' : List Oq) (n : Int) (r : Rw) (T : Nat) (z : Oq) (va vb : Value) (d1 d2 s1 s2 : Bool) (va' vb' : Value) (W0 W : World) : Prop where
  ta : TA w vp vq (if d1 = true then A' else A) (if d2 = true then B' else B) n r (if s1 = true then va' else va) (if s2 = true then vb' else vb) va' vb' W
  e1 : d1 = false → va' = va
  e2 : d2 = false → vb' = vb
  o : OpC W T z.1 z.2.1 z.2.2
  na : ∀ k, va'.ownBlock = some k → k ≠ T
  nb : ∀ k, vb'.ownBlock = some k → k ≠ T
  ko : KeepsOthers W0 W
variable {d1 d2 s1 s2 : Bool}
theorem MI.later (h : MI w vp vq A B A' B' n r T z va vb d1 d2 s1 s2 va' vb' W0 W) (hb : Below W.heap.size W W') : MI w vp vq A B A' B' n r T z va vb d1 d2 s1 s2 va' vb' W0 W' :=
  ⟨h.ta.later hb, h.e1, h.e2, h.o.later hb, h.na, h.nb, h.ko.trans (keeps_below hb)⟩
theorem MI.add1 (h : MI w vp vq A B A' B' n r T z va vb d1 d2 s1 s2 va' vb' W0 W) (h1 : s1 = false) {u : Value} (ha : Adds W W' va' u) (ho : W'.ownsRow w.heap.size 41 3 u A'.length (cellsO A')) : MI w vp vq A B A' B' n r T z va vb true d2 s1 s2 u vb' W0 W' := by
  subst h1
  exact ⟨h.ta.first ha ho, (fun e => by cases e), h.e2, h.o.adds ha h.na, apartOne ha h.o.lt h.na, h.nb, h.ko.trans (adds_others h.ta.oa ha)⟩
theorem MI.add2 (h : MI w vp vq A B A' B' n r T z va vb d1 d2 s1 s2 va' vb' W0 W) (h1 : s2 = false) {u : Value} (ha : Adds W W' vb' u) (ho : W'.ownsRow w.heap.size 41 3 u B'.length (cellsO B')) : MI w vp vq A B A' B' n r T z va vb d1 true s1 s2 va' u W0 W' := by
  subst h1
  exact ⟨h.ta.second ha ho, h.e1, (fun e => by cases e), h.o.adds ha h.nb, h.na, apartOne ha h.o.lt h.nb, h.ko.trans (adds_others h.ta.ob ha)⟩
theorem opc_box {x1 x2 : Int} {x3 : Tx} {b c : Nat} {t : TypeId} {u : Value} (h : OpC W b x1 x2 x3) (hc : Boxed W c t u) : b ≠ c := fun e => by
  subst e; unfold OpC at h; unfold Boxed at hc; rw [h] at hc; simp at hc
theorem MI.st1 (h : MI w vp vq A B A' B' n r T z va vb d1 d2 s1 s2 va' vb' W0 W) : MI w vp vq A B A' B' n r T z va vb d1 d2 true s2 va' vb' W0 (W.setCell ⟨w.heap.size + 1 + 1 + 1, 0, none⟩ va') :=
  ⟨h.ta.set0 va', h.e1, h.e2, h.o.other (opc_box h.o h.ta.b0), h.na, h.nb, h.ko.trans (KeepsOthers.setCell _ _ _)⟩
theorem MI.st2 (h : MI w vp vq A B A' B' n r T z va vb d1 d2 s1 s2 va' vb' W0 W) : MI w vp vq A B A' B' n r T z va vb d1 d2 s1 true va' vb' W0 (W.setCell ⟨w.heap.size + 1 + 1 + 1 + 1, 0, none⟩ vb') :=
  ⟨h.ta.set1 vb', h.e1, h.e2, h.o.other (opc_box h.o h.ta.b1), h.na, h.nb, h.ko.trans (KeepsOthers.setCell _ _ _)⟩
theorem owns_slice {e : TypeId} {size k : Nat} {xs : List Value} {B0 : Nat} (h : W.ownsRow B0 e size v k xs) : ∃ ao m c, v = .slice ao m c := by
  rcases h.2 with ⟨rfl, _⟩ | ⟨g, cap, _, rfl, _⟩
  · exact ⟨_, _, _, rfl⟩
  · exact ⟨_, _, _, rfl⟩
end

/-- the operations of region 5 -/
def r5 : Array Oper := #[{ dst := some 17, op := Op.load 67 (Operand.tmp 10), type := 67, pos := "swap.go:37", after := #[], guard := none }, { dst := some 18, op := Op.call { callee := Callee.value (Operand.func 42), args := #[Operand.tmp 17], argTypes := #[67] }, type := 41, pos := "swap.go:37", after := #[{ on := 0, ground := Ground.data }], guard := none }, { dst := some 19, op := Op.load 67 (Operand.tmp 10), type := 67, pos := "swap.go:37", after := #[], guard := none }, { dst := some 20, op := Op.call { callee := Callee.value (Operand.func 43), args := #[Operand.tmp 19], argTypes := #[67] }, type := 3, pos := "swap.go:37", after := #[{ on := 2, ground := Ground.data }, { on := 1, ground := Ground.chain }], guard := none }, { dst := some 11, op := Op.alloc 41, type := 0, pos := "swap.go:37", after := #[], guard := none }, { dst := none, op := Op.store 41 (Operand.tmp 11) (Operand.tmp 18), type := 0, pos := "swap.go:37", after := #[{ on := 4, ground := Ground.data }, { on := 1, ground := Ground.data }, { on := 3, ground := Ground.chain }, { on := 0, ground := Ground.phase }, { on := 1, ground := Ground.phase }, { on := 2, ground := Ground.textOnly Departure.lateStores }, { on := 3, ground := Ground.textOnly Departure.lateStoresUnsure }, { on := 4, ground := Ground.phase }], guard := none }, { dst := some 12, op := Op.assign (Operand.tmp 20), type := 3, pos := "swap.go:37", after := #[{ on := 3, ground := Ground.data }, { on := 5, ground := Ground.chain }, { on := 0, ground := Ground.phase }, { on := 1, ground := Ground.phase }, { on := 2, ground := Ground.phase }, { on := 3, ground := Ground.phase }, { on := 4, ground := Ground.phase }, { on := 5, ground := Ground.phase }], guard := none }]
/-- the operations of region 13 -/
def r13 : Array Oper := #[{ dst := some 40, op := Op.load 22 (Operand.tmp 7), type := 22, pos := "swap.go:46", after := #[], guard := none }, { dst := some 41, op := Op.load 41 (Operand.tmp 11), type := 41, pos := "swap.go:46", after := #[], guard := none }, { dst := some 42, op := Op.call { callee := Callee.value (Operand.func 44), args := #[Operand.tmp 40, Operand.tmp 41, Operand.const (Value.int IntKind.i64 3)], argTypes := #[22, 41, 3] }, type := 22, pos := "swap.go:46", after := #[{ on := 0, ground := Ground.data }, { on := 1, ground := Ground.data }], guard := none }, { dst := some 43, op := Op.load 22 (Operand.tmp 8), type := 22, pos := "swap.go:46", after := #[], guard := none }, { dst := some 44, op := Op.load 41 (Operand.tmp 11), type := 41, pos := "swap.go:46", after := #[], guard := none }, { dst := some 45, op := Op.buildSlice 22 1 #[(0, Operand.tmp 44)], type := 22, pos := "swap.go:46", after := #[{ on := 4, ground := Ground.data }], guard := none }, { dst := some 46, op := Op.call { callee := Callee.builtin Builtin.append, args := #[Operand.tmp 43, Operand.tmp 45], argTypes := #[22, 22] }, type := 22, pos := "swap.go:46", after := #[{ on := 3, ground := Ground.data }, { on := 5, ground := Ground.data }, { on := 2, ground := Ground.chain }], guard := none }, { dst := none, op := Op.store 22 (Operand.tmp 7) (Operand.tmp 42), type := 0, pos := "swap.go:46", after := #[{ on := 2, ground := Ground.data }, { on := 6, ground := Ground.chain }, { on := 0, ground := Ground.phase }, { on := 1, ground := Ground.phase }, { on := 2, ground := Ground.phase }, { on := 3, ground := Ground.textOnly Departure.inlinedCapture }, { on := 4, ground := Ground.textOnly Departure.lateStores }, { on := 5, ground := Ground.textOnly Departure.inlinedCapture }, { on := 6, ground := Ground.textOnly Departure.lateStoresUnsure }], guard := none }, { dst := none, op := Op.store 22 (Operand.tmp 8) (Operand.tmp 46), type := 0, pos := "swap.go:46", after := #[{ on := 6, ground := Ground.data }, { on := 7, ground := Ground.chain }, { on := 0, ground := Ground.phase }, { on := 1, ground := Ground.phase }, { on := 2, ground := Ground.phase }, { on := 3, ground := Ground.phase }, { on := 4, ground := Ground.phase }, { on := 5, ground := Ground.phase }, { on := 6, ground := Ground.phase }, { on := 7, ground := Ground.phase }], guard := none }]
/-- the operations of region 15 -/
def r15 : Array Oper := #[{ dst := some 50, op := Op.load 22 (Operand.tmp 7), type := 22, pos := "swap.go:48", after := #[], guard := none }, { dst := some 51, op := Op.load 41 (Operand.tmp 11), type := 41, pos := "swap.go:48", after := #[], guard := none }, { dst := some 52, op := Op.buildSlice 22 1 #[(0, Operand.tmp 51)], type := 22, pos := "swap.go:48", after := #[{ on := 1, ground := Ground.data }], guard := none }, { dst := some 53, op := Op.call { callee := Callee.builtin Builtin.append, args := #[Operand.tmp 50, Operand.tmp 52], argTypes := #[22, 22] }, type := 22, pos := "swap.go:48", after := #[{ on := 0, ground := Ground.data }, { on := 2, ground := Ground.data }], guard := none }, { dst := some 54, op := Op.load 22 (Operand.tmp 8), type := 22, pos := "swap.go:48", after := #[], guard := none }, { dst := some 55, op := Op.load 41 (Operand.tmp 11), type := 41, pos := "swap.go:48", after := #[], guard := none }, { dst := some 56, op := Op.call { callee := Callee.value (Operand.func 44), args := #[Operand.tmp 54, Operand.tmp 55, Operand.const (Value.int IntKind.i64 4)], argTypes := #[22, 41, 3] }, type := 22, pos := "swap.go:48", after := #[{ on := 4, ground := Ground.data }, { on := 5, ground := Ground.data }, { on := 3, ground := Ground.chain }], guard := none }, { dst := none, op := Op.store 22 (Operand.tmp 7) (Operand.tmp 53), type := 0, pos := "swap.go:48", after := #[{ on := 3, ground := Ground.data }, { on := 6, ground := Ground.chain }, { on := 0, ground := Ground.phase }, { on := 1, ground := Ground.phase }, { on := 2, ground := Ground.phase }, { on := 3, ground := Ground.phase }, { on := 4, ground := Ground.textOnly Departure.inlinedCapture }, { on := 5, ground := Ground.textOnly Departure.lateStores }, { on := 6, ground := Ground.textOnly Departure.lateStoresUnsure }], guard := none }, { dst := none, op := Op.store 22 (Operand.tmp 8) (Operand.tmp 56), type := 0, pos := "swap.go:48", after := #[{ on := 6, ground := Ground.data }, { on := 7, ground := Ground.chain }, { on := 0, ground := Ground.phase }, { on := 1, ground := Ground.phase }, { on := 2, ground := Ground.phase }, { on := 3, ground := Ground.phase }, { on := 4, ground := Ground.phase }, { on := 5, ground := Ground.phase }, { on := 6, ground := Ground.phase }, { on := 7, ground := Ground.phase }], guard := none }]
/-- the operations of region 9 -/
def r9 : Array Oper := #[{ dst := some 26, op := Op.load 22 (Operand.tmp 7), type := 22, pos := "swap.go:50", after := #[], guard := none }, { dst := some 27, op := Op.load 41 (Operand.tmp 11), type := 41, pos := "swap.go:50", after := #[], guard := none }, { dst := some 28, op := Op.buildSlice 22 1 #[(0, Operand.tmp 27)], type := 22, pos := "swap.go:50", after := #[{ on := 1, ground := Ground.data }], guard := none }, { dst := some 29, op := Op.call { callee := Callee.builtin Builtin.append, args := #[Operand.tmp 26, Operand.tmp 28], argTypes := #[22, 22] }, type := 22, pos := "swap.go:50", after := #[{ on := 0, ground := Ground.data }, { on := 2, ground := Ground.data }], guard := none }, { dst := some 30, op := Op.load 22 (Operand.tmp 8), type := 22, pos := "swap.go:50", after := #[], guard := none }, { dst := some 31, op := Op.load 41 (Operand.tmp 11), type := 41, pos := "swap.go:50", after := #[], guard := none }, { dst := some 32, op := Op.buildSlice 22 1 #[(0, Operand.tmp 31)], type := 22, pos := "swap.go:50", after := #[{ on := 5, ground := Ground.data }], guard := none }, { dst := some 33, op := Op.call { callee := Callee.builtin Builtin.append, args := #[Operand.tmp 30, Operand.tmp 32], argTypes := #[22, 22] }, type := 22, pos := "swap.go:50", after := #[{ on := 4, ground := Ground.data }, { on := 6, ground := Ground.data }, { on := 3, ground := Ground.chain }], guard := none }, { dst := none, op := Op.store 22 (Operand.tmp 7) (Operand.tmp 29), type := 0, pos := "swap.go:50", after := #[{ on := 3, ground := Ground.data }, { on := 7, ground := Ground.chain }, { on := 0, ground := Ground.phase }, { on := 1, ground := Ground.phase }, { on := 2, ground := Ground.phase }, { on := 3, ground := Ground.phase }, { on := 4, ground := Ground.textOnly Departure.inlinedCapture }, { on := 5, ground := Ground.textOnly Departure.lateStores }, { on := 6, ground := Ground.textOnly Departure.inlinedCapture }, { on := 7, ground := Ground.textOnly Departure.lateStoresUnsure }], guard := none }, { dst := none, op := Op.store 22 (Operand.tmp 8) (Operand.tmp 33), type := 0, pos := "swap.go:50", after := #[{ on := 7, ground := Ground.data }, { on := 8, ground := Ground.chain }, { on := 0, ground := Ground.phase }, { on := 1, ground := Ground.phase }, { on := 2, ground := Ground.phase }, { on := 3, ground := Ground.phase }, { on := 4, ground := Ground.phase }, { on := 5, ground := Ground.phase }, { on := 6, ground := Ground.phase }, { on := 7, ground := Ground.phase }, { on := 8, ground := Ground.phase }], guard := none }]
/-- what holds within region 13, by what is done -/
structure I13 (a0 : Act) (w : World) (vp vq : Value) (A B : List Oq) (n : Int) (r : Rw) (T : Nat) (z : Oq) (va vb : Value) (W0 : World) (f : Nat → Bool) (a : Act) (W : World) : Prop where
  kp : Kp 13 a0 a
  s0 : f 0 = true → a.tmps.getD 40 undef = va
  s1 : f 1 = true → a.tmps.getD 41 undef = opV z
  s3 : f 3 = true → a.tmps.getD 43 undef = vb
  s4 : f 4 = true → a.tmps.getD 44 undef = opV z
  ex : ∃ va2 vb2, MI w vp vq A B (A ++ bes 3 z) (B ++ [z]) n r T z va vb (f 2) (f 6) (f 7) (f 8) va2 vb2 W0 W ∧ (f 2 = true → a.tmps.getD 42 undef = va2) ∧ (f 6 = true → a.tmps.getD 46 undef = vb2) ∧ (f 5 = true → f 6 = false → Sl W (a.tmps.getD 45 undef) z va2 vb2)
set_option maxHeartbeats 4000000 in
theorem region13 {l m : Nat} {Q : Exit → Act → World → Prop} {a0 : Act} {w W : World} {vp vq va vb : Value} {A B : List Oq} {n : Int} {r : Rw} {T : Nat} {z : Oq} (hs : a0.tmps.size = 59)
    (h7 : a0.tmps.getD 7 undef = .pointer (some ⟨w.heap.size + 1 + 1 + 1, 0, none⟩)) (h8 : a0.tmps.getD 8 undef = .pointer (some ⟨w.heap.size + 1 + 1 + 1 + 1, 0, none⟩)) (h11 : a0.tmps.getD 11 undef = .pointer (some ⟨T, 0, none⟩))
    (ta : TA w vp vq A B n r va vb va vb W) (ho : OpC W T z.1 z.2.1 z.2.2) (hna : ∀ k, va.ownBlock = some k → k ≠ T) (hnb : ∀ k, vb.ownBlock = some k → k ≠ T) (hlA : A.length ≤ 2199023255552) (hlB : B.length ≤ 2199023255552)
    (h : ∀ a W' va2 vb2, Kp 13 a0 a → TA w vp vq (A ++ bes 3 z) (B ++ [z]) n r va2 vb2 va2 vb2 W' → KeepsOthers W W' → Q .normal a W') : (Code.region 13 r13 true).wpIn (Fence.wide.inRound l) m Try.prog Q a0 W := by
  have hd : Below W.heap.size W W.drew := ⟨rfl, rfl, rfl, Nat.le_refl _, fun _ _ => rfl⟩
  have sva := owns_slice ta.oa
  have svb := owns_slice ta.ob
  refine wpIn_region_inv (I13 a0 w vp vq A B n r T z va vb W) (by kernel_rfl) (by kernel_rfl) ⟨⟨hs, rfl, fun _ _ => rfl⟩, (fun e => by cases e), (fun e => by cases e), (fun e => by cases e), (fun e => by cases e), va, vb, ⟨ta.later hd, fun _ => rfl, fun _ => rfl, ho.later hd, hna, hnb, keeps_below hd⟩, (fun e => by cases e), (fun e => by cases e), (fun e => by cases e)⟩ ?_ ?_
  · intro f i a W1 hi hf hcl hw I K hK
    have w0 : waits r13 0 = [] := by kernel_rfl
    have w1 : waits r13 1 = [] := by kernel_rfl
    have w2 : waits r13 2 = [0, 1] := by kernel_rfl
    have w3 : waits r13 3 = [] := by kernel_rfl
    have w4 : waits r13 4 = [] := by kernel_rfl
    have w5 : waits r13 5 = [4] := by kernel_rfl
    have w6 : waits r13 6 = [3, 5, 2] := by kernel_rfl
    have w7 : waits r13 7 = [2, 6, 0, 1, 2] := by kernel_rfl
    have w8 : waits r13 8 = [6, 7, 0, 1, 2, 3, 4, 5, 6, 7] := by kernel_rfl
    obtain ⟨va2, vb2, mi, t1, t2, x5⟩ := I.ex
    have b7 := (I.kp.low 7 (by decide)).trans h7
    have b8 := (I.kp.low 8 (by decide)).trans h8
    have b11 := (I.kp.low 11 (by decide)).trans h11
    have sz := I.kp.size
    match i, hi with
    | 0, _ =>
      have n1 : f 7 = false := (by cases e : f 7 with | false => rfl | true => exact not_done hf (hcl 7 e 0 (by rw [w7]; decide)))
      have bx := mi.ta.b0
      rw [n1] at bx
      exact opIn_value rfl rfl (fun c e => by cases e) (sem_load_ops rfl b7 bx sva) (hK _ _ ⟨I.kp.put (k := 40) _ (by decide), (fun _ => put_self (k := 40) _ (by rw [sz]; decide)), (fun e => put_of (k := 40) (by decide) (I.s1 e)), (fun e => put_of (k := 40) (by decide) (I.s3 e)), (fun e => put_of (k := 40) (by decide) (I.s4 e)), va2, vb2, mi, (fun e => put_of (k := 40) (by decide) (t1 e)), (fun e => put_of (k := 40) (by decide) (t2 e)), (fun e e2 => (x5 e e2).put (k := 40) _ (by decide))⟩)
    | 1, _ =>
      exact opIn_value rfl rfl (fun c e => by cases e) (sem_load_op rfl b11 mi.o) (hK _ _ ⟨I.kp.put (k := 41) _ (by decide), (fun e => put_of (k := 41) (by decide) (I.s0 e)), (fun _ => put_self (k := 41) _ (by rw [sz]; decide)), (fun e => put_of (k := 41) (by decide) (I.s3 e)), (fun e => put_of (k := 41) (by decide) (I.s4 e)), va2, vb2, mi, (fun e => put_of (k := 41) (by decide) (t1 e)), (fun e => put_of (k := 41) (by decide) (t2 e)), (fun e e2 => (x5 e e2).put (k := 41) _ (by decide))⟩)
    | 2, _ =>
      have n1 : f 7 = false := (by cases e : f 7 with | false => rfl | true => exact not_done hf (hcl 7 e 2 (by rw [w7]; decide)))
      have e1 : va2 = va := mi.e1 hf
      have hp : a.tmps.getD 40 undef = va2 := (I.s0 (hw 0 (by rw [w2]; decide))).trans e1.symm
      have ow := mi.ta.oa
      rw [hf, if_neg (by decide)] at ow
      have hsz := mi.ta.bel.size
      have sv := owns_slice ow
      have hq := I.s1 (hw 1 (by rw [w2]; decide))
      have hc := beside_any w.heap.size va2 A z 3 W1 ow hsz hlA
      refine opIn_call rfl rfl (fun c e => by cases e) (sem_call_beside rfl hp hq) hc ?_
      rintro e W2 ⟨u, rfl, ow2, ha⟩
      exact ⟨u, rfl, hK _ _ ⟨I.kp.put (k := 42) _ (by decide), (fun e => put_of (k := 42) (by decide) (I.s0 e)), (fun e => put_of (k := 42) (by decide) (I.s1 e)), (fun e => put_of (k := 42) (by decide) (I.s3 e)), (fun e => put_of (k := 42) (by decide) (I.s4 e)), u, vb2, mi.add1 n1 ha ow2, (fun _ => put_self (k := 42) _ (by rw [sz]; decide)), (fun e => put_of (k := 42) (by decide) (t2 e)), (fun e e2 => ((x5 e e2).add1 ha).put (k := 42) _ (by decide))⟩⟩
    | 3, _ =>
      have n1 : f 8 = false := (by cases e : f 8 with | false => rfl | true => exact not_done hf (hcl 8 e 3 (by rw [w8]; decide)))
      have bx := mi.ta.b1
      rw [n1] at bx
      exact opIn_value rfl rfl (fun c e => by cases e) (sem_load_ops rfl b8 bx svb) (hK _ _ ⟨I.kp.put (k := 43) _ (by decide), (fun e => put_of (k := 43) (by decide) (I.s0 e)), (fun e => put_of (k := 43) (by decide) (I.s1 e)), (fun _ => put_self (k := 43) _ (by rw [sz]; decide)), (fun e => put_of (k := 43) (by decide) (I.s4 e)), va2, vb2, mi, (fun e => put_of (k := 43) (by decide) (t1 e)), (fun e => put_of (k := 43) (by decide) (t2 e)), (fun e e2 => (x5 e e2).put (k := 43) _ (by decide))⟩)
    | 4, _ =>
      exact opIn_value rfl rfl (fun c e => by cases e) (sem_load_op rfl b11 mi.o) (hK _ _ ⟨I.kp.put (k := 44) _ (by decide), (fun e => put_of (k := 44) (by decide) (I.s0 e)), (fun e => put_of (k := 44) (by decide) (I.s1 e)), (fun e => put_of (k := 44) (by decide) (I.s3 e)), (fun _ => put_self (k := 44) _ (by rw [sz]; decide)), va2, vb2, mi, (fun e => put_of (k := 44) (by decide) (t1 e)), (fun e => put_of (k := 44) (by decide) (t2 e)), (fun e e2 => (x5 e e2).put (k := 44) _ (by decide))⟩)
    | 5, _ =>
      have hq := I.s4 (hw 4 (by rw [w5]; decide))
      have hb : Below W1.heap.size W1 (W1.alloc (opO z.1 z.2.1 z.2.2)) := bel_alloc (Below.refl _ _) _
      exact opIn_value rfl rfl (fun c e => by cases e) (sem_slice_op rfl hq) (hK _ _ ⟨I.kp.put (k := 45) _ (by decide), (fun e => put_of (k := 45) (by decide) (I.s0 e)), (fun e => put_of (k := 45) (by decide) (I.s1 e)), (fun e => put_of (k := 45) (by decide) (I.s3 e)), (fun e => put_of (k := 45) (by decide) (I.s4 e)), va2, vb2, mi.later hb, (fun e => put_of (k := 45) (by decide) (t1 e)), (fun e => put_of (k := 45) (by decide) (t2 e)), (fun _ _ => (Sl.new mi.ta z).putn (k := 45) (by rw [sz]; decide))⟩)
    | 6, _ =>
      have n1 : f 8 = false := (by cases e : f 8 with | false => rfl | true => exact not_done hf (hcl 8 e 6 (by rw [w8]; decide)))
      have e1 : vb2 = vb := mi.e2 hf
      have hp : a.tmps.getD 43 undef = vb2 := (I.s3 (hw 3 (by rw [w6]; decide))).trans e1.symm
      have ow := mi.ta.ob
      rw [hf, if_neg (by decide)] at ow
      have hsz := mi.ta.bel.size
      have sv := owns_slice ow
      have hu := (x5 (hw 5 (by rw [w6]; decide)) hf).ops
      obtain ⟨u, W2, hrun, ow2, ha⟩ := sem_append_ops (a := a) (o := r13[6]) (p := 43) (q := 45) (B := w.heap.size) rfl hp rfl ow hu (by simp; omega) hsz
      exact opIn_value rfl rfl (fun c e => by cases e) hrun (hK _ _ ⟨I.kp.put (k := 46) _ (by decide), (fun e => put_of (k := 46) (by decide) (I.s0 e)), (fun e => put_of (k := 46) (by decide) (I.s1 e)), (fun e => put_of (k := 46) (by decide) (I.s3 e)), (fun e => put_of (k := 46) (by decide) (I.s4 e)), va2, u, mi.add2 n1 ha ow2, (fun e => put_of (k := 46) (by decide) (t1 e)), (fun _ => put_self (k := 46) _ (by rw [sz]; decide)), (fun _ e2 => by cases (upd_self f 6).symm.trans e2)⟩)
    | 7, _ =>
      have hp := t1 (hw 2 (by rw [w7]; decide))
      have sv := owns_slice mi.ta.oa
      exact opIn_skip rfl rfl (fun c e => by cases e) (sem_store_ops rfl b7 hp mi.ta.b0 sv) (hK _ _ ⟨I.kp, I.s0, I.s1, I.s3, I.s4, va2, vb2, mi.st1, t1, t2, (fun _ e2 => not_done e2 (hw 6 (by rw [w7]; decide)))⟩)
    | 8, _ =>
      have hp := t2 (hw 6 (by rw [w8]; decide))
      have sv := owns_slice mi.ta.ob
      exact opIn_skip rfl rfl (fun c e => by cases e) (sem_store_ops rfl b8 hp mi.ta.b1 sv) (hK _ _ ⟨I.kp, I.s0, I.s1, I.s3, I.s4, va2, vb2, mi.st2, t1, t2, (fun _ e2 => not_done e2 (hw 6 (by rw [w8]; decide)))⟩)
  · intro f a W1 hall I
    obtain ⟨va2, vb2, mi, _⟩ := I.ex
    have h0 := mi.ta
    rw [hall 2 (by decide), hall 6 (by decide), hall 7 (by decide), hall 8 (by decide)] at h0
    exact h _ _ _ _ I.kp h0 mi.ko
/-- what holds within region 15, by what is done -/
structure I15 (a0 : Act) (w : World) (vp vq : Value) (A B : List Oq) (n : Int) (r : Rw) (T : Nat) (z : Oq) (va vb : Value) (W0 : World) (f : Nat → Bool) (a : Act) (W : World) : Prop where
  kp : Kp 13 a0 a
  s0 : f 0 = true → a.tmps.getD 50 undef = va
  s1 : f 1 = true → a.tmps.getD 51 undef = opV z
  s4 : f 4 = true → a.tmps.getD 54 undef = vb
  s5 : f 5 = true → a.tmps.getD 55 undef = opV z
  ex : ∃ va2 vb2, MI w vp vq A B (A ++ [z]) (B ++ bes 4 z) n r T z va vb (f 3) (f 6) (f 7) (f 8) va2 vb2 W0 W ∧ (f 3 = true → a.tmps.getD 53 undef = va2) ∧ (f 6 = true → a.tmps.getD 56 undef = vb2) ∧ (f 2 = true → f 3 = false → Sl W (a.tmps.getD 52 undef) z va2 vb2)
set_option maxHeartbeats 4000000 in
theorem region15 {l m : Nat} {Q : Exit → Act → World → Prop} {a0 : Act} {w W : World} {vp vq va vb : Value} {A B : List Oq} {n : Int} {r : Rw} {T : Nat} {z : Oq} (hs : a0.tmps.size = 59)
    (h7 : a0.tmps.getD 7 undef = .pointer (some ⟨w.heap.size + 1 + 1 + 1, 0, none⟩)) (h8 : a0.tmps.getD 8 undef = .pointer (some ⟨w.heap.size + 1 + 1 + 1 + 1, 0, none⟩)) (h11 : a0.tmps.getD 11 undef = .pointer (some ⟨T, 0, none⟩))
    (ta : TA w vp vq A B n r va vb va vb W) (ho : OpC W T z.1 z.2.1 z.2.2) (hna : ∀ k, va.ownBlock = some k → k ≠ T) (hnb : ∀ k, vb.ownBlock = some k → k ≠ T) (hlA : A.length ≤ 2199023255552) (hlB : B.length ≤ 2199023255552)
    (h : ∀ a W' va2 vb2, Kp 13 a0 a → TA w vp vq (A ++ [z]) (B ++ bes 4 z) n r va2 vb2 va2 vb2 W' → KeepsOthers W W' → Q .normal a W') : (Code.region 15 r15 true).wpIn (Fence.wide.inRound l) m Try.prog Q a0 W := by
  have hd : Below W.heap.size W W.drew := ⟨rfl, rfl, rfl, Nat.le_refl _, fun _ _ => rfl⟩
  have sva := owns_slice ta.oa
  have svb := owns_slice ta.ob
  refine wpIn_region_inv (I15 a0 w vp vq A B n r T z va vb W) (by kernel_rfl) (by kernel_rfl) ⟨⟨hs, rfl, fun _ _ => rfl⟩, (fun e => by cases e), (fun e => by cases e), (fun e => by cases e), (fun e => by cases e), va, vb, ⟨ta.later hd, fun _ => rfl, fun _ => rfl, ho.later hd, hna, hnb, keeps_below hd⟩, (fun e => by cases e), (fun e => by cases e), (fun e => by cases e)⟩ ?_ ?_
  · intro f i a W1 hi hf hcl hw I K hK
    have w0 : waits r15 0 = [] := by kernel_rfl
    have w1 : waits r15 1 = [] := by kernel_rfl
    have w2 : waits r15 2 = [1] := by kernel_rfl
    have w3 : waits r15 3 = [0, 2] := by kernel_rfl
    have w4 : waits r15 4 = [] := by kernel_rfl
    have w5 : waits r15 5 = [] := by kernel_rfl
    have w6 : waits r15 6 = [4, 5, 3] := by kernel_rfl
    have w7 : waits r15 7 = [3, 6, 0, 1, 2, 3] := by kernel_rfl
    have w8 : waits r15 8 = [6, 7, 0, 1, 2, 3, 4, 5, 6, 7] := by kernel_rfl
    obtain ⟨va2, vb2, mi, t1, t2, x2⟩ := I.ex
    have b7 := (I.kp.low 7 (by decide)).trans h7
    have b8 := (I.kp.low 8 (by decide)).trans h8
    have b11 := (I.kp.low 11 (by decide)).trans h11
    have sz := I.kp.size
    match i, hi with
    | 0, _ =>
      have n1 : f 7 = false := (by cases e : f 7 with | false => rfl | true => exact not_done hf (hcl 7 e 0 (by rw [w7]; decide)))
      have bx := mi.ta.b0
      rw [n1] at bx
      exact opIn_value rfl rfl (fun c e => by cases e) (sem_load_ops rfl b7 bx sva) (hK _ _ ⟨I.kp.put (k := 50) _ (by decide), (fun _ => put_self (k := 50) _ (by rw [sz]; decide)), (fun e => put_of (k := 50) (by decide) (I.s1 e)), (fun e => put_of (k := 50) (by decide) (I.s4 e)), (fun e => put_of (k := 50) (by decide) (I.s5 e)), va2, vb2, mi, (fun e => put_of (k := 50) (by decide) (t1 e)), (fun e => put_of (k := 50) (by decide) (t2 e)), (fun e e2 => (x2 e e2).put (k := 50) _ (by decide))⟩)
    | 1, _ =>
      exact opIn_value rfl rfl (fun c e => by cases e) (sem_load_op rfl b11 mi.o) (hK _ _ ⟨I.kp.put (k := 51) _ (by decide), (fun e => put_of (k := 51) (by decide) (I.s0 e)), (fun _ => put_self (k := 51) _ (by rw [sz]; decide)), (fun e => put_of (k := 51) (by decide) (I.s4 e)), (fun e => put_of (k := 51) (by decide) (I.s5 e)), va2, vb2, mi, (fun e => put_of (k := 51) (by decide) (t1 e)), (fun e => put_of (k := 51) (by decide) (t2 e)), (fun e e2 => (x2 e e2).put (k := 51) _ (by decide))⟩)
    | 2, _ =>
      have hq := I.s1 (hw 1 (by rw [w2]; decide))
      have hb : Below W1.heap.size W1 (W1.alloc (opO z.1 z.2.1 z.2.2)) := bel_alloc (Below.refl _ _) _
      exact opIn_value rfl rfl (fun c e => by cases e) (sem_slice_op rfl hq) (hK _ _ ⟨I.kp.put (k := 52) _ (by decide), (fun e => put_of (k := 52) (by decide) (I.s0 e)), (fun e => put_of (k := 52) (by decide) (I.s1 e)), (fun e => put_of (k := 52) (by decide) (I.s4 e)), (fun e => put_of (k := 52) (by decide) (I.s5 e)), va2, vb2, mi.later hb, (fun e => put_of (k := 52) (by decide) (t1 e)), (fun e => put_of (k := 52) (by decide) (t2 e)), (fun _ _ => (Sl.new mi.ta z).putn (k := 52) (by rw [sz]; decide))⟩)
    | 3, _ =>
      have n1 : f 7 = false := (by cases e : f 7 with | false => rfl | true => exact not_done hf (hcl 7 e 3 (by rw [w7]; decide)))
      have e1 : va2 = va := mi.e1 hf
      have hp : a.tmps.getD 50 undef = va2 := (I.s0 (hw 0 (by rw [w3]; decide))).trans e1.symm
      have ow := mi.ta.oa
      rw [hf, if_neg (by decide)] at ow
      have hsz := mi.ta.bel.size
      have sv := owns_slice ow
      have hu := (x2 (hw 2 (by rw [w3]; decide)) hf).ops
      obtain ⟨u, W2, hrun, ow2, ha⟩ := sem_append_ops (a := a) (o := r15[3]) (p := 50) (q := 52) (B := w.heap.size) rfl hp rfl ow hu (by simp; omega) hsz
      exact opIn_value rfl rfl (fun c e => by cases e) hrun (hK _ _ ⟨I.kp.put (k := 53) _ (by decide), (fun e => put_of (k := 53) (by decide) (I.s0 e)), (fun e => put_of (k := 53) (by decide) (I.s1 e)), (fun e => put_of (k := 53) (by decide) (I.s4 e)), (fun e => put_of (k := 53) (by decide) (I.s5 e)), u, vb2, mi.add1 n1 ha ow2, (fun _ => put_self (k := 53) _ (by rw [sz]; decide)), (fun e => put_of (k := 53) (by decide) (t2 e)), (fun _ e2 => by cases (upd_self f 3).symm.trans e2)⟩)
    | 4, _ =>
      have n1 : f 8 = false := (by cases e : f 8 with | false => rfl | true => exact not_done hf (hcl 8 e 4 (by rw [w8]; decide)))
      have bx := mi.ta.b1
      rw [n1] at bx
      exact opIn_value rfl rfl (fun c e => by cases e) (sem_load_ops rfl b8 bx svb) (hK _ _ ⟨I.kp.put (k := 54) _ (by decide), (fun e => put_of (k := 54) (by decide) (I.s0 e)), (fun e => put_of (k := 54) (by decide) (I.s1 e)), (fun _ => put_self (k := 54) _ (by rw [sz]; decide)), (fun e => put_of (k := 54) (by decide) (I.s5 e)), va2, vb2, mi, (fun e => put_of (k := 54) (by decide) (t1 e)), (fun e => put_of (k := 54) (by decide) (t2 e)), (fun e e2 => (x2 e e2).put (k := 54) _ (by decide))⟩)
    | 5, _ =>
      exact opIn_value rfl rfl (fun c e => by cases e) (sem_load_op rfl b11 mi.o) (hK _ _ ⟨I.kp.put (k := 55) _ (by decide), (fun e => put_of (k := 55) (by decide) (I.s0 e)), (fun e => put_of (k := 55) (by decide) (I.s1 e)), (fun e => put_of (k := 55) (by decide) (I.s4 e)), (fun _ => put_self (k := 55) _ (by rw [sz]; decide)), va2, vb2, mi, (fun e => put_of (k := 55) (by decide) (t1 e)), (fun e => put_of (k := 55) (by decide) (t2 e)), (fun e e2 => (x2 e e2).put (k := 55) _ (by decide))⟩)
    | 6, _ =>
      have n1 : f 8 = false := (by cases e : f 8 with | false => rfl | true => exact not_done hf (hcl 8 e 6 (by rw [w8]; decide)))
      have e1 : vb2 = vb := mi.e2 hf
      have hp : a.tmps.getD 54 undef = vb2 := (I.s4 (hw 4 (by rw [w6]; decide))).trans e1.symm
      have ow := mi.ta.ob
      rw [hf, if_neg (by decide)] at ow
      have hsz := mi.ta.bel.size
      have sv := owns_slice ow
      have hq := I.s5 (hw 5 (by rw [w6]; decide))
      have hc := beside_any w.heap.size vb2 B z 4 W1 ow hsz hlB
      refine opIn_call rfl rfl (fun c e => by cases e) (sem_call_beside rfl hp hq) hc ?_
      rintro e W2 ⟨u, rfl, ow2, ha⟩
      exact ⟨u, rfl, hK _ _ ⟨I.kp.put (k := 56) _ (by decide), (fun e => put_of (k := 56) (by decide) (I.s0 e)), (fun e => put_of (k := 56) (by decide) (I.s1 e)), (fun e => put_of (k := 56) (by decide) (I.s4 e)), (fun e => put_of (k := 56) (by decide) (I.s5 e)), va2, u, mi.add2 n1 ha ow2, (fun e => put_of (k := 56) (by decide) (t1 e)), (fun _ => put_self (k := 56) _ (by rw [sz]; decide)), (fun e e2 => ((x2 e e2).add2 ha).put (k := 56) _ (by decide))⟩⟩
    | 7, _ =>
      have hp := t1 (hw 3 (by rw [w7]; decide))
      have sv := owns_slice mi.ta.oa
      exact opIn_skip rfl rfl (fun c e => by cases e) (sem_store_ops rfl b7 hp mi.ta.b0 sv) (hK _ _ ⟨I.kp, I.s0, I.s1, I.s4, I.s5, va2, vb2, mi.st1, t1, t2, (fun _ e2 => not_done e2 (hw 3 (by rw [w7]; decide)))⟩)
    | 8, _ =>
      have hp := t2 (hw 6 (by rw [w8]; decide))
      have sv := owns_slice mi.ta.ob
      exact opIn_skip rfl rfl (fun c e => by cases e) (sem_store_ops rfl b8 hp mi.ta.b1 sv) (hK _ _ ⟨I.kp, I.s0, I.s1, I.s4, I.s5, va2, vb2, mi.st2, t1, t2, (fun _ e2 => not_done e2 (hw 3 (by rw [w8]; decide)))⟩)
  · intro f a W1 hall I
    obtain ⟨va2, vb2, mi, _⟩ := I.ex
    have h0 := mi.ta
    rw [hall 3 (by decide), hall 6 (by decide), hall 7 (by decide), hall 8 (by decide)] at h0
    exact h _ _ _ _ I.kp h0 mi.ko
/-- what holds within region 9, by what is done -/
structure I9 (a0 : Act) (w : World) (vp vq : Value) (A B : List Oq) (n : Int) (r : Rw) (T : Nat) (z : Oq) (va vb : Value) (W0 : World) (f : Nat → Bool) (a : Act) (W : World) : Prop where
  kp : Kp 13 a0 a
  s0 : f 0 = true → a.tmps.getD 26 undef = va
  s1 : f 1 = true → a.tmps.getD 27 undef = opV z
  s4 : f 4 = true → a.tmps.getD 30 undef = vb
  s5 : f 5 = true → a.tmps.getD 31 undef = opV z
  ex : ∃ va2 vb2, MI w vp vq A B (A ++ [z]) (B ++ [z]) n r T z va vb (f 3) (f 7) (f 8) (f 9) va2 vb2 W0 W ∧ (f 3 = true → a.tmps.getD 29 undef = va2) ∧ (f 7 = true → a.tmps.getD 33 undef = vb2) ∧ (f 2 = true → f 3 = false → Sl W (a.tmps.getD 28 undef) z va2 vb2) ∧ (f 6 = true → f 7 = false → Sl W (a.tmps.getD 32 undef) z va2 vb2)
set_option maxHeartbeats 4000000 in
theorem region9 {l m : Nat} {Q : Exit → Act → World → Prop} {a0 : Act} {w W : World} {vp vq va vb : Value} {A B : List Oq} {n : Int} {r : Rw} {T : Nat} {z : Oq} (hs : a0.tmps.size = 59)
    (h7 : a0.tmps.getD 7 undef = .pointer (some ⟨w.heap.size + 1 + 1 + 1, 0, none⟩)) (h8 : a0.tmps.getD 8 undef = .pointer (some ⟨w.heap.size + 1 + 1 + 1 + 1, 0, none⟩)) (h11 : a0.tmps.getD 11 undef = .pointer (some ⟨T, 0, none⟩))
    (ta : TA w vp vq A B n r va vb va vb W) (ho : OpC W T z.1 z.2.1 z.2.2) (hna : ∀ k, va.ownBlock = some k → k ≠ T) (hnb : ∀ k, vb.ownBlock = some k → k ≠ T) (hlA : A.length ≤ 2199023255552) (hlB : B.length ≤ 2199023255552)
    (h : ∀ a W' va2 vb2, Kp 13 a0 a → TA w vp vq (A ++ [z]) (B ++ [z]) n r va2 vb2 va2 vb2 W' → KeepsOthers W W' → Q .normal a W') : (Code.region 9 r9 true).wpIn (Fence.wide.inRound l) m Try.prog Q a0 W := by
  have hd : Below W.heap.size W W.drew := ⟨rfl, rfl, rfl, Nat.le_refl _, fun _ _ => rfl⟩
  have sva := owns_slice ta.oa
  have svb := owns_slice ta.ob
  refine wpIn_region_inv (I9 a0 w vp vq A B n r T z va vb W) (by kernel_rfl) (by kernel_rfl) ⟨⟨hs, rfl, fun _ _ => rfl⟩, (fun e => by cases e), (fun e => by cases e), (fun e => by cases e), (fun e => by cases e), va, vb, ⟨ta.later hd, fun _ => rfl, fun _ => rfl, ho.later hd, hna, hnb, keeps_below hd⟩, (fun e => by cases e), (fun e => by cases e), (fun e => by cases e), (fun e => by cases e)⟩ ?_ ?_
  · intro f i a W1 hi hf hcl hw I K hK
    have w0 : waits r9 0 = [] := by kernel_rfl
    have w1 : waits r9 1 = [] := by kernel_rfl
    have w2 : waits r9 2 = [1] := by kernel_rfl
    have w3 : waits r9 3 = [0, 2] := by kernel_rfl
    have w4 : waits r9 4 = [] := by kernel_rfl
    have w5 : waits r9 5 = [] := by kernel_rfl
    have w6 : waits r9 6 = [5] := by kernel_rfl
    have w7 : waits r9 7 = [4, 6, 3] := by kernel_rfl
    have w8 : waits r9 8 = [3, 7, 0, 1, 2, 3] := by kernel_rfl
    have w9 : waits r9 9 = [7, 8, 0, 1, 2, 3, 4, 5, 6, 7, 8] := by kernel_rfl
    obtain ⟨va2, vb2, mi, t1, t2, x2, x6⟩ := I.ex
    have b7 := (I.kp.low 7 (by decide)).trans h7
    have b8 := (I.kp.low 8 (by decide)).trans h8
    have b11 := (I.kp.low 11 (by decide)).trans h11
    have sz := I.kp.size
    match i, hi with
    | 0, _ =>
      have n1 : f 8 = false := (by cases e : f 8 with | false => rfl | true => exact not_done hf (hcl 8 e 0 (by rw [w8]; decide)))
      have bx := mi.ta.b0
      rw [n1] at bx
      exact opIn_value rfl rfl (fun c e => by cases e) (sem_load_ops rfl b7 bx sva) (hK _ _ ⟨I.kp.put (k := 26) _ (by decide), (fun _ => put_self (k := 26) _ (by rw [sz]; decide)), (fun e => put_of (k := 26) (by decide) (I.s1 e)), (fun e => put_of (k := 26) (by decide) (I.s4 e)), (fun e => put_of (k := 26) (by decide) (I.s5 e)), va2, vb2, mi, (fun e => put_of (k := 26) (by decide) (t1 e)), (fun e => put_of (k := 26) (by decide) (t2 e)), (fun e e2 => (x2 e e2).put (k := 26) _ (by decide)), (fun e e2 => (x6 e e2).put (k := 26) _ (by decide))⟩)
    | 1, _ =>
      exact opIn_value rfl rfl (fun c e => by cases e) (sem_load_op rfl b11 mi.o) (hK _ _ ⟨I.kp.put (k := 27) _ (by decide), (fun e => put_of (k := 27) (by decide) (I.s0 e)), (fun _ => put_self (k := 27) _ (by rw [sz]; decide)), (fun e => put_of (k := 27) (by decide) (I.s4 e)), (fun e => put_of (k := 27) (by decide) (I.s5 e)), va2, vb2, mi, (fun e => put_of (k := 27) (by decide) (t1 e)), (fun e => put_of (k := 27) (by decide) (t2 e)), (fun e e2 => (x2 e e2).put (k := 27) _ (by decide)), (fun e e2 => (x6 e e2).put (k := 27) _ (by decide))⟩)
    | 2, _ =>
      have hq := I.s1 (hw 1 (by rw [w2]; decide))
      have hb : Below W1.heap.size W1 (W1.alloc (opO z.1 z.2.1 z.2.2)) := bel_alloc (Below.refl _ _) _
      exact opIn_value rfl rfl (fun c e => by cases e) (sem_slice_op rfl hq) (hK _ _ ⟨I.kp.put (k := 28) _ (by decide), (fun e => put_of (k := 28) (by decide) (I.s0 e)), (fun e => put_of (k := 28) (by decide) (I.s1 e)), (fun e => put_of (k := 28) (by decide) (I.s4 e)), (fun e => put_of (k := 28) (by decide) (I.s5 e)), va2, vb2, mi.later hb, (fun e => put_of (k := 28) (by decide) (t1 e)), (fun e => put_of (k := 28) (by decide) (t2 e)), (fun _ _ => (Sl.new mi.ta z).putn (k := 28) (by rw [sz]; decide)), (fun e e2 => ((x6 e e2).later hb).put (k := 28) _ (by decide))⟩)
    | 3, _ =>
      have n1 : f 8 = false := (by cases e : f 8 with | false => rfl | true => exact not_done hf (hcl 8 e 3 (by rw [w8]; decide)))
      have e1 : va2 = va := mi.e1 hf
      have hp : a.tmps.getD 26 undef = va2 := (I.s0 (hw 0 (by rw [w3]; decide))).trans e1.symm
      have ow := mi.ta.oa
      rw [hf, if_neg (by decide)] at ow
      have hsz := mi.ta.bel.size
      have sv := owns_slice ow
      have hu := (x2 (hw 2 (by rw [w3]; decide)) hf).ops
      obtain ⟨u, W2, hrun, ow2, ha⟩ := sem_append_ops (a := a) (o := r9[3]) (p := 26) (q := 28) (B := w.heap.size) rfl hp rfl ow hu (by simp; omega) hsz
      exact opIn_value rfl rfl (fun c e => by cases e) hrun (hK _ _ ⟨I.kp.put (k := 29) _ (by decide), (fun e => put_of (k := 29) (by decide) (I.s0 e)), (fun e => put_of (k := 29) (by decide) (I.s1 e)), (fun e => put_of (k := 29) (by decide) (I.s4 e)), (fun e => put_of (k := 29) (by decide) (I.s5 e)), u, vb2, mi.add1 n1 ha ow2, (fun _ => put_self (k := 29) _ (by rw [sz]; decide)), (fun e => put_of (k := 29) (by decide) (t2 e)), (fun _ e2 => by cases (upd_self f 3).symm.trans e2), (fun e e2 => ((x6 e e2).add1 ha).put (k := 29) _ (by decide))⟩)
    | 4, _ =>
      have n1 : f 9 = false := (by cases e : f 9 with | false => rfl | true => exact not_done hf (hcl 9 e 4 (by rw [w9]; decide)))
      have bx := mi.ta.b1
      rw [n1] at bx
      exact opIn_value rfl rfl (fun c e => by cases e) (sem_load_ops rfl b8 bx svb) (hK _ _ ⟨I.kp.put (k := 30) _ (by decide), (fun e => put_of (k := 30) (by decide) (I.s0 e)), (fun e => put_of (k := 30) (by decide) (I.s1 e)), (fun _ => put_self (k := 30) _ (by rw [sz]; decide)), (fun e => put_of (k := 30) (by decide) (I.s5 e)), va2, vb2, mi, (fun e => put_of (k := 30) (by decide) (t1 e)), (fun e => put_of (k := 30) (by decide) (t2 e)), (fun e e2 => (x2 e e2).put (k := 30) _ (by decide)), (fun e e2 => (x6 e e2).put (k := 30) _ (by decide))⟩)
    | 5, _ =>
      exact opIn_value rfl rfl (fun c e => by cases e) (sem_load_op rfl b11 mi.o) (hK _ _ ⟨I.kp.put (k := 31) _ (by decide), (fun e => put_of (k := 31) (by decide) (I.s0 e)), (fun e => put_of (k := 31) (by decide) (I.s1 e)), (fun e => put_of (k := 31) (by decide) (I.s4 e)), (fun _ => put_self (k := 31) _ (by rw [sz]; decide)), va2, vb2, mi, (fun e => put_of (k := 31) (by decide) (t1 e)), (fun e => put_of (k := 31) (by decide) (t2 e)), (fun e e2 => (x2 e e2).put (k := 31) _ (by decide)), (fun e e2 => (x6 e e2).put (k := 31) _ (by decide))⟩)
    | 6, _ =>
      have hq := I.s5 (hw 5 (by rw [w6]; decide))
      have hb : Below W1.heap.size W1 (W1.alloc (opO z.1 z.2.1 z.2.2)) := bel_alloc (Below.refl _ _) _
      exact opIn_value rfl rfl (fun c e => by cases e) (sem_slice_op rfl hq) (hK _ _ ⟨I.kp.put (k := 32) _ (by decide), (fun e => put_of (k := 32) (by decide) (I.s0 e)), (fun e => put_of (k := 32) (by decide) (I.s1 e)), (fun e => put_of (k := 32) (by decide) (I.s4 e)), (fun e => put_of (k := 32) (by decide) (I.s5 e)), va2, vb2, mi.later hb, (fun e => put_of (k := 32) (by decide) (t1 e)), (fun e => put_of (k := 32) (by decide) (t2 e)), (fun e e2 => ((x2 e e2).later hb).put (k := 32) _ (by decide)), (fun _ _ => (Sl.new mi.ta z).putn (k := 32) (by rw [sz]; decide))⟩)
    | 7, _ =>
      have n1 : f 9 = false := (by cases e : f 9 with | false => rfl | true => exact not_done hf (hcl 9 e 7 (by rw [w9]; decide)))
      have e1 : vb2 = vb := mi.e2 hf
      have hp : a.tmps.getD 30 undef = vb2 := (I.s4 (hw 4 (by rw [w7]; decide))).trans e1.symm
      have ow := mi.ta.ob
      rw [hf, if_neg (by decide)] at ow
      have hsz := mi.ta.bel.size
      have sv := owns_slice ow
      have hu := (x6 (hw 6 (by rw [w7]; decide)) hf).ops
      obtain ⟨u, W2, hrun, ow2, ha⟩ := sem_append_ops (a := a) (o := r9[7]) (p := 30) (q := 32) (B := w.heap.size) rfl hp rfl ow hu (by simp; omega) hsz
      exact opIn_value rfl rfl (fun c e => by cases e) hrun (hK _ _ ⟨I.kp.put (k := 33) _ (by decide), (fun e => put_of (k := 33) (by decide) (I.s0 e)), (fun e => put_of (k := 33) (by decide) (I.s1 e)), (fun e => put_of (k := 33) (by decide) (I.s4 e)), (fun e => put_of (k := 33) (by decide) (I.s5 e)), va2, u, mi.add2 n1 ha ow2, (fun e => put_of (k := 33) (by decide) (t1 e)), (fun _ => put_self (k := 33) _ (by rw [sz]; decide)), (fun e e2 => ((x2 e e2).add2 ha).put (k := 33) _ (by decide)), (fun _ e2 => by cases (upd_self f 7).symm.trans e2)⟩)
    | 8, _ =>
      have hp := t1 (hw 3 (by rw [w8]; decide))
      have sv := owns_slice mi.ta.oa
      exact opIn_skip rfl rfl (fun c e => by cases e) (sem_store_ops rfl b7 hp mi.ta.b0 sv) (hK _ _ ⟨I.kp, I.s0, I.s1, I.s4, I.s5, va2, vb2, mi.st1, t1, t2, (fun _ e2 => not_done e2 (hw 3 (by rw [w8]; decide))), (fun _ e2 => not_done e2 (hw 7 (by rw [w8]; decide)))⟩)
    | 9, _ =>
      have hp := t2 (hw 7 (by rw [w9]; decide))
      have sv := owns_slice mi.ta.ob
      exact opIn_skip rfl rfl (fun c e => by cases e) (sem_store_ops rfl b8 hp mi.ta.b1 sv) (hK _ _ ⟨I.kp, I.s0, I.s1, I.s4, I.s5, va2, vb2, mi.st2, t1, t2, (fun _ e2 => not_done e2 (hw 3 (by rw [w9]; decide))), (fun _ e2 => not_done e2 (hw 7 (by rw [w9]; decide)))⟩)
  · intro f a W1 hall I
    obtain ⟨va2, vb2, mi, _⟩ := I.ex
    have h0 := mi.ta
    rw [hall 3 (by decide), hall 7 (by decide), hall 8 (by decide), hall 9 (by decide)] at h0
    exact h _ _ _ _ I.kp h0 mi.ko
section
variable {w W W' W0 : World} {vp vq va vb xa xb v : Value} {A B : List Oq} {n : Int} {r : Rw}
theorem opc_row {x1 x2 g : Int} {x3 : Tx} {b c : Nat} {u : Value} (h : OpC W b x1 x2 x3) (hc : RowC W c u g) : c ≠ b := fun e => by
  subst e; unfold OpC at h; unfold RowC at hc; rw [h] at hc; simp at hc
theorem opc_mt {x1 x2 : Int} {x3 : Tx} {b c : Nat} {c0 c1 c2 c3 c4 c5 : Value} (h : OpC W b x1 x2 x3) (hc : MtC W c c0 c1 c2 c3 c4 c5) : c ≠ b := fun e => by
  subst e; unfold OpC at h; unfold MtC at hc; rw [h] at hc; simp at hc
theorem TA.setT (h : TA w vp vq A B n r xa xb va vb W) {T : Nat} {x1 x2 : Int} {x3 : Tx} (hT : OpC W T x1 x2 x3) (hw : w.heap.size ≤ T) (na : ∀ k, va.ownBlock = some k → k ≠ T) (nb : ∀ k, vb.ownBlock = some k → k ≠ T) (i : Nat) (u : Value) : TA w vp vq A B n r xa xb va vb (W.setCell ⟨T, i, none⟩ u) :=
  have k : ∀ {c : Nat} {t : TypeId} {v : Value}, Boxed W c t v → Boxed (W.setCell ⟨T, i, none⟩ u) c t v := fun hb => box_keep hb (heap_setCell_ne _ _ _ _ _ (Ne.symm (opc_box hT hb)))
  ⟨bel_set h.bel hw, k h.res0, k h.res1, k h.res2, k h.b0, k h.b1, k h.st, k h.k1, k h.k2, fun b1 b2 P Q e => by
    obtain ⟨h1, h2, h3⟩ := h.rows b1 b2 P Q e
    obtain ⟨v1, g1, r1⟩ := h1.rowc
    obtain ⟨v2, g2, r2⟩ := h2.rowc
    exact ⟨h1.other (opc_row hT r1), h2.other (opc_row hT r2), h3⟩,
    owns_same h.oa fun k hk => heap_setCell_ne _ _ _ _ _ (na k hk), owns_same h.ob fun k hk => heap_setCell_ne _ _ _ _ _ (nb k hk), h.ab⟩
/-- what holds within region 5, by what is done -/
structure I5 (a0 : Act) (w : World) (vp vq : Value) (A B : List Oq) (n : Int) (r : Rw) (va vb : Value) (b : Nat) (m : Oq × Oq) (W0 : World) (f : Nat → Bool) (a : Act) (W : World) : Prop where
  kp : Kp 11 a0 a
  s0 : f 0 = true → a.tmps.getD 17 undef = mV m
  s1 : f 1 = true → a.tmps.getD 18 undef = opV (tld m)
  s2 : f 2 = true → a.tmps.getD 19 undef = mV m
  s3 : f 3 = true → a.tmps.getD 20 undef = .int .i64 (whs m)
  s4 : f 4 = true → ∃ T, a.tmps.getD 11 undef = .pointer (some ⟨T, 0, none⟩) ∧ (f 5 = true → OpC W T (tld m).1 (tld m).2.1 (tld m).2.2) ∧ (f 5 = false → OpC W T 0 0 []) ∧ (∀ k, va.ownBlock = some k → k ≠ T) ∧ (∀ k, vb.ownBlock = some k → k ≠ T) ∧ w.heap.size ≤ T
  s6 : f 6 = true → a.tmps.getD 12 undef = .int .i64 (whs m)
  ta : TA w vp vq A B n r va vb va vb W
  mt : MtC W b (.int .i64 m.1.1) (.int .i64 m.1.2.1) (.string ⟨m.1.2.2.toArray⟩) (.int .i64 m.2.1) (.int .i64 m.2.2.1) (.string ⟨m.2.2.2.toArray⟩)
  ko : KeepsOthers W0 W
variable {b : Nat} {m : Oq × Oq} {f : Nat → Bool} {a0 a : Act}
/-- one slot is filled, the world as it was but for what is new -/
theorem I5.go (I : I5 a0 w vp vq A B n r va vb b m W0 f a W) (hb : Below W.heap.size W W') (k i : Nat) (u : Value) (hk : 13 ≤ k) (hi : i = 0 ∨ i = 1 ∨ i = 2 ∨ i = 3)
    (h0 : (i = 0 ∧ k = 17 ∧ u = mV m) ∨ (i ≠ 0 ∧ k ≠ 17)) (h1 : (i = 1 ∧ k = 18 ∧ u = opV (tld m)) ∨ (i ≠ 1 ∧ k ≠ 18)) (h2 : (i = 2 ∧ k = 19 ∧ u = mV m) ∨ (i ≠ 2 ∧ k ≠ 19)) (h3 : (i = 3 ∧ k = 20 ∧ u = .int .i64 (whs m)) ∨ (i ≠ 3 ∧ k ≠ 20)) :
    I5 a0 w vp vq A B n r va vb b m W0 (upd f i) (a.put (some k) u) W' := by
  have sz := I.kp.size
  refine ⟨I.kp.put u (by omega), ?_, ?_, ?_, ?_, ?_, ?_, I.ta.later hb, I.mt.later hb, I.ko.trans (keeps_below hb)⟩
  · rcases h0 with ⟨_, rfl, rfl⟩ | ⟨e1, e2⟩
    · exact fun _ => put_self _ (by rw [sz]; decide)
    · intro e; rw [upd_ne f (Ne.symm e1)] at e; exact put_of (Ne.symm e2) (I.s0 e)
  · rcases h1 with ⟨_, rfl, rfl⟩ | ⟨e1, e2⟩
    · exact fun _ => put_self _ (by rw [sz]; decide)
    · intro e; rw [upd_ne f (Ne.symm e1)] at e; exact put_of (Ne.symm e2) (I.s1 e)
  · rcases h2 with ⟨_, rfl, rfl⟩ | ⟨e1, e2⟩
    · exact fun _ => put_self _ (by rw [sz]; decide)
    · intro e; rw [upd_ne f (Ne.symm e1)] at e; exact put_of (Ne.symm e2) (I.s2 e)
  · rcases h3 with ⟨_, rfl, rfl⟩ | ⟨e1, e2⟩
    · exact fun _ => put_self _ (by rw [sz]; decide)
    · intro e; rw [upd_ne f (Ne.symm e1)] at e; exact put_of (Ne.symm e2) (I.s3 e)
  · intro e
    rw [upd_ne f (by omega)] at e
    obtain ⟨T, q1, q2, q3, q4⟩ := I.s4 e
    refine ⟨T, put_of (by omega) q1, fun e => ?_, fun e => ?_, q4⟩
    · rw [upd_ne f (by omega)] at e; exact (q2 e).later hb
    · rw [upd_ne f (by omega)] at e; exact (q3 e).later hb
  · intro e
    rw [upd_ne f (by omega)] at e
    exact put_of (by omega) (I.s6 e)
end
set_option maxHeartbeats 4000000 in
theorem region5 {l c : Nat} {Q : Exit → Act → World → Prop} {a0 : Act} {w W : World} {vp vq va vb : Value} {A B : List Oq} {n : Int} {r : Rw} {b : Nat} {m : Oq × Oq} (hs : a0.tmps.size = 59)
    (h10 : a0.tmps.getD 10 undef = .pointer (some ⟨b, 0, none⟩)) (ta : TA w vp vq A B n r va vb va vb W)
    (mt : MtC W b (.int .i64 m.1.1) (.int .i64 m.1.2.1) (.string ⟨m.1.2.2.toArray⟩) (.int .i64 m.2.1) (.int .i64 m.2.2.1) (.string ⟨m.2.2.2.toArray⟩))
    (h : ∀ a W' T, Kp 11 a0 a → a.tmps.getD 11 undef = .pointer (some ⟨T, 0, none⟩) → a.tmps.getD 12 undef = .int .i64 (whs m) → OpC W' T (tld m).1 (tld m).2.1 (tld m).2.2 → (∀ k, va.ownBlock = some k → k ≠ T) → (∀ k, vb.ownBlock = some k → k ≠ T) → TA w vp vq A B n r va vb va vb W' → KeepsOthers W W' → Q .normal a W') :
    (Code.region 5 r5 true).wpIn (Fence.wide.inRound l) c Try.prog Q a0 W := by
  have hd : Below W.heap.size W W.drew := ⟨rfl, rfl, rfl, Nat.le_refl _, fun _ _ => rfl⟩
  refine wpIn_region_inv (I5 a0 w vp vq A B n r va vb b m W) (by kernel_rfl) (by kernel_rfl) ⟨⟨hs, rfl, fun _ _ => rfl⟩, (fun e => by cases e), (fun e => by cases e), (fun e => by cases e), (fun e => by cases e), (fun e => by cases e), (fun e => by cases e), ta.later hd, mt.later hd, keeps_below hd⟩ ?_ ?_
  · intro f i a W1 hi hf hcl hw I K hK
    have w1 : waits r5 1 = [0] := by kernel_rfl
    have w3 : waits r5 3 = [2, 1] := by kernel_rfl
    have w5 : waits r5 5 = [4, 1, 3, 0, 1, 4] := by kernel_rfl
    have w6 : waits r5 6 = [3, 5, 0, 1, 2, 3, 4, 5] := by kernel_rfl
    have b10 := (I.kp.low 10 (by decide)).trans h10
    have sz := I.kp.size
    match i, hi with
    | 0, _ => exact opIn_value rfl rfl (fun c e => by cases e) (sem_load_mt rfl b10 I.mt) (hK _ _ (I.go (Below.refl _ _) 17 0 _ (by decide) (by decide) (Or.inl ⟨rfl, rfl, rfl⟩) (Or.inr (by decide)) (Or.inr (by decide)) (Or.inr (by decide))))
    | 1, _ =>
      refine opIn_call rfl rfl (fun c e => by cases e) (sem_call_told rfl (I.s0 (hw 0 (by rw [w1]; decide)))) (ctold_any m W1) ?_
      rintro e W2 ⟨rfl, hb⟩
      exact ⟨_, rfl, hK _ _ (I.go hb 18 1 _ (by decide) (by decide) (Or.inr (by decide)) (Or.inl ⟨rfl, rfl, rfl⟩) (Or.inr (by decide)) (Or.inr (by decide)))⟩
    | 2, _ => exact opIn_value rfl rfl (fun c e => by cases e) (sem_load_mt rfl b10 I.mt) (hK _ _ (I.go (Below.refl _ _) 19 2 _ (by decide) (by decide) (Or.inr (by decide)) (Or.inr (by decide)) (Or.inl ⟨rfl, rfl, rfl⟩) (Or.inr (by decide))))
    | 3, _ =>
      refine opIn_call rfl rfl (fun c e => by cases e) (sem_call_owner rfl (I.s2 (hw 2 (by rw [w3]; decide)))) (owner_any m W1) ?_
      rintro e W2 ⟨rfl, hb⟩
      exact ⟨_, rfl, hK _ _ (I.go hb 20 3 _ (by decide) (by decide) (Or.inr (by decide)) (Or.inr (by decide)) (Or.inr (by decide)) (Or.inl ⟨rfl, rfl, rfl⟩))⟩
    | 4, _ =>
      have n5 : f 5 = false := (by cases e : f 5 with | false => rfl | true => exact not_done hf (hcl 5 e 4 (by rw [w5]; decide)))
      have hb : Below W1.heap.size W1 (W1.alloc (opO 0 0 [])) := bel_alloc (Below.refl _ _) _
      exact opIn_value rfl rfl (fun c e => by cases e) (sem_alloc_op rfl) (hK _ _ ⟨I.kp.put (k := 11) _ (by decide), (fun e => put_of (k := 11) (by decide) (I.s0 e)), (fun e => put_of (k := 11) (by decide) (I.s1 e)), (fun e => put_of (k := 11) (by decide) (I.s2 e)), (fun e => put_of (k := 11) (by decide) (I.s3 e)),
        (fun _ => ⟨W1.heap.size, put_self (k := 11) _ (by rw [sz]; decide), (fun e => not_done n5 e), (fun _ => OpC.new W1 0 0 []), (fun k hk => by have := (I.ta.oa.lt k hk).2; omega), (fun k hk => by have := (I.ta.ob.lt k hk).2; omega), I.ta.bel.size⟩),
        (fun e => put_of (k := 11) (by decide) (I.s6 e)), I.ta.later hb, I.mt.later hb, I.ko.trans (keeps_below hb)⟩)
    | 5, _ =>
      obtain ⟨T, q1, _, q3, q4, q5, q6⟩ := I.s4 (hw 4 (by rw [w5]; decide))
      have hT := q3 hf
      have hz := I.s1 (hw 1 (by rw [w5]; decide))
      have t1 := hT.set0 (tld m).1
      have t2 := t1.set1 (tld m).2.1
      have a1 := I.ta.setT hT q6 q4 q5 0 (.int .i64 (tld m).1)
      have a2 := a1.setT t1 q6 q4 q5 1 (.int .i64 (tld m).2.1)
      have a3 := a2.setT t2 q6 q4 q5 2 (.string ⟨(tld m).2.2.toArray⟩)
      have n1 := opc_mt hT I.mt
      exact opIn_skip rfl rfl (fun c e => by cases e) (sem_store_op (x := (0, 0, [])) rfl q1 hz hT) (hK _ _ ⟨I.kp, I.s0, I.s1, I.s2, I.s3,
        (fun _ => ⟨T, q1, (fun _ => t2.set2 _), (fun e => by cases (upd_self f 5).symm.trans e), q4, q5, q6⟩), I.s6, a3, ((I.mt.other n1).other n1).other n1, ((I.ko.trans (KeepsOthers.setCell _ _ _)).trans (KeepsOthers.setCell _ _ _)).trans (KeepsOthers.setCell _ _ _)⟩)
    | 6, _ =>
      exact opIn_value rfl rfl (fun c e => by cases e) (sem_assign rfl (I.s3 (hw 3 (by rw [w6]; decide)))) (hK _ _ ⟨I.kp.put (k := 12) _ (by decide), (fun e => put_of (k := 12) (by decide) (I.s0 e)), (fun e => put_of (k := 12) (by decide) (I.s1 e)), (fun e => put_of (k := 12) (by decide) (I.s2 e)), (fun e => put_of (k := 12) (by decide) (I.s3 e)),
        (fun e => by obtain ⟨T, q1, q2⟩ := I.s4 e; exact ⟨T, put_of (k := 12) (by decide) q1, q2⟩),
        (fun _ => put_self (k := 12) _ (by rw [sz]; decide)), I.ta, I.mt, I.ko⟩)
  · intro f a W1 hall I
    obtain ⟨T, q1, q2, _, q4, q5, _⟩ := I.s4 (hall 4 (by decide))
    exact h a W1 T I.kp q1 (I.s6 (hall 6 (by decide))) (q2 (hall 5 (by decide))) q4 q5 I.ta I.ko
theorem slots59 (tmps : Array Value) (h : tmps.size = 59) : tmps = #[tmps.getD 0 undef, tmps.getD 1 undef, tmps.getD 2 undef, tmps.getD 3 undef, tmps.getD 4 undef, tmps.getD 5 undef, tmps.getD 6 undef, tmps.getD 7 undef, tmps.getD 8 undef, tmps.getD 9 undef, tmps.getD 10 undef, tmps.getD 11 undef, tmps.getD 12 undef, tmps.getD 13 undef, tmps.getD 14 undef, tmps.getD 15 undef, tmps.getD 16 undef, tmps.getD 17 undef, tmps.getD 18 undef, tmps.getD 19 undef, tmps.getD 20 undef, tmps.getD 21 undef, tmps.getD 22 undef, tmps.getD 23 undef, tmps.getD 24 undef, tmps.getD 25 undef, tmps.getD 26 undef, tmps.getD 27 undef, tmps.getD 28 undef, tmps.getD 29 undef, tmps.getD 30 undef, tmps.getD 31 undef, tmps.getD 32 undef, tmps.getD 33 undef, tmps.getD 34 undef, tmps.getD 35 undef, tmps.getD 36 undef, tmps.getD 37 undef, tmps.getD 38 undef, tmps.getD 39 undef, tmps.getD 40 undef, tmps.getD 41 undef, tmps.getD 42 undef, tmps.getD 43 undef, tmps.getD 44 undef, tmps.getD 45 undef, tmps.getD 46 undef, tmps.getD 47 undef, tmps.getD 48 undef, tmps.getD 49 undef, tmps.getD 50 undef, tmps.getD 51 undef, tmps.getD 52 undef, tmps.getD 53 undef, tmps.getD 54 undef, tmps.getD 55 undef, tmps.getD 56 undef, tmps.getD 57 undef, tmps.getD 58 undef] := by
  have h1 : tmps.toList = (List.range 59).map (fun i => tmps.getD i undef) := by
    apply List.ext_getElem
    · simp [h]
    · intro i h2 h3
      simp at h2
      simp [h2]
  calc tmps = ⟨tmps.toList⟩ := rfl
    _ = ⟨(List.range 59).map (fun i => tmps.getD i undef)⟩ := by rw [h1]
    _ = _ := rfl
/-- a frame written out, its first slots known -/
theorem frame59 {a : Act} {v0 v1 v2 v3 v4 v5 v6 v7 v8 v9 v10 v11 v12 : Value} {d : List Deferred} (h : a.tmps.size = 59) (hd : a.defers = d) (e0 : a.tmps.getD 0 undef = v0) (e1 : a.tmps.getD 1 undef = v1) (e2 : a.tmps.getD 2 undef = v2) (e3 : a.tmps.getD 3 undef = v3) (e4 : a.tmps.getD 4 undef = v4) (e5 : a.tmps.getD 5 undef = v5) (e6 : a.tmps.getD 6 undef = v6) (e7 : a.tmps.getD 7 undef = v7) (e8 : a.tmps.getD 8 undef = v8) (e9 : a.tmps.getD 9 undef = v9) (e10 : a.tmps.getD 10 undef = v10) (e11 : a.tmps.getD 11 undef = v11) (e12 : a.tmps.getD 12 undef = v12) : ∃ g : Nat → Value, a = { tmps := #[v0, v1, v2, v3, v4, v5, v6, v7, v8, v9, v10, v11, v12, g 13, g 14, g 15, g 16, g 17, g 18, g 19, g 20, g 21, g 22, g 23, g 24, g 25, g 26, g 27, g 28, g 29, g 30, g 31, g 32, g 33, g 34, g 35, g 36, g 37, g 38, g 39, g 40, g 41, g 42, g 43, g 44, g 45, g 46, g 47, g 48, g 49, g 50, g 51, g 52, g 53, g 54, g 55, g 56, g 57, g 58], defers := d } := by
  refine ⟨fun i => a.tmps.getD i undef, ?_⟩
  obtain ⟨tmps, defers⟩ := a
  have h1 := slots59 tmps h
  simp only at e0 e1 e2 e3 e4 e5 e6 e7 e8 e9 e10 e11 e12 hd h1
  rw [e0, e1, e2, e3, e4, e5, e6, e7, e8, e9, e10, e11, e12] at h1
  rw [← hd]
  exact congrArg (fun t => Act.mk t defers) h1
end Go.Proofs.Ytcjjboomljbmbaa
