
/-
  What the program's own together answers at any two lists of steps that are right by themselves; conditions: the lists' and the texts' lengths.
-/
import Derived.Test.YtcdjemheokmglabCSeq
import Derived.Test.YtcdjemheokmglabORow
import Derived.Test.YtcdjemheokmglabCRow
namespace Go.Proofs.Ytcdjemheokmglab
open Go.RowKit Go.Proofs.Ytcdjemheokmglab.Ln Go.Proofs.Ytcdjemheokmglab.Ol

theorem wpListIn_append_ops {F : Fence} {n : Nat} (w : World) {ops : Array Oper} {rest : List Oper} {o : Oper} {a : Act} {Q : Exit → Act → World → Prop} (hg : o.guard = none) (s x : Operand)
    (ho : o.op = .call { callee := .builtin .append, args := #[s, x], argTypes := #[22, 22] }) (B : Nat) (v u : Value) (xs ys : List Oq) (hs : a.eval s = v) (hx : a.eval x = u)
    (hown : w.ownsRow B 30 3 v xs.length (cellsO xs)) (hu : OpsAt w u ys) (hl : xs.length + ys.length ≤ 4398046511104) (hB : B ≤ w.heap.size)
    (h : ∀ v' w', w'.ownsRow B 30 3 v' (xs ++ ys).length (cellsO (xs ++ ys)) → Adds w w' v v' → wpListIn F n Try.prog ops Q rest (a.put o.dst v') w') : wpListIn F n Try.prog ops Q (o :: rest) a w := by
  refine wpListIn_plain hg fun K hK' => ?_
  obtain ⟨v', w', hrun, r1, r2⟩ := run_append_ops w o.type B v u xs ys hown hu hl hB
  unfold Oper.wpIn
  refine ⟨?_, ?_⟩
  · simp [Oper.about, ho, resolve, Target.leads, Sem.run_pure]
  · rw [Oper.semAt_plain F _ _ (by rw [ho]; intro c hc'; cases hc')]
    simp [execOp, ho, resolve, invoke, builtin, hs, hx, hrun, Result.andThen]
    exact hK' _ _ (h v' w' r1 r2)

/-- where the two rows lie, and what is left of them -/
abbrev Rw := Option (Nat × Nat × List Oq × List Oq)
/-- what together keeps in memory -/
structure TM (w : World) (vp vq : Value) (out : List Oq) (e : Bool) (r : Rw) (W : World) : Prop where
  bel : Below w.heap.size w W
  res0 : Boxed W w.heap.size 22 (.slice none 0 0)
  res1 : Boxed W (w.heap.size + 1) 4 (.bool false)
  out : ∃ vo, Boxed W (w.heap.size + 1 + 1) 22 vo ∧ W.ownsRow w.heap.size 30 3 vo out.length (cellsO out)
  st : Boxed W (w.heap.size + 1 + 1 + 1) 4 (.bool e)
  k1 : Boxed W (w.heap.size + 1 + 1 + 1 + 1) 22 vp
  k2 : Boxed W (w.heap.size + 1 + 1 + 1 + 1 + 1) 22 vq
  rows : ∀ b1 b2 P Q, r = some (b1, b2, P, Q) → RL w W b1 P ∧ RL w W b2 Q ∧ w.heap.size ≤ b1 ∧ w.heap.size ≤ b2
theorem owns_same {W W' : World} {B : Nat} {v : Value} {e : TypeId} {size n : Nat} {cs : List Value} (h : W.ownsRow B e size v n cs) (hk : ∀ k, v.ownBlock = some k → W'.heap[k]? = W.heap[k]?) : W'.ownsRow B e size v n cs := by
  rcases h with ⟨h1, h | ⟨g, cap, cur, rfl, hB, hg, h2⟩⟩
  · exact ⟨h1, Or.inl h⟩
  · exact ⟨h1, Or.inr ⟨g, cap, cur, rfl, hB, (hk g rfl).trans hg, h2⟩⟩
theorem owns_cells {W : World} {B : Nat} {v : Value} {e : TypeId} {size n : Nat} {cs : List Value} (h : W.ownsRow B e size v n cs) {k : Nat} (hk : v.ownBlock = some k) : ∃ cur, W.heap[k]? = some (.cells cur e (0, 0)) := by
  rcases h with ⟨_, ⟨rfl, _⟩ | ⟨g, cap, cur, rfl, _, hg, _⟩⟩
  · cases hk
  · cases hk; exact ⟨cur, hg⟩
section
variable {w W W' : World} {vp vq : Value} {out : List Oq} {e : Bool} {r : Rw}
theorem TM.later (h : TM w vp vq out e r W) (hb : Below W.heap.size W W') : TM w vp vq out e r W' :=
  ⟨h.bel.trans (hb.mono h.bel.size), box_later h.res0 hb, box_later h.res1 hb, by obtain ⟨vo, h1, h2⟩ := h.out; exact ⟨vo, box_later h1 hb, owns_later h2 hb⟩, box_later h.st hb, box_later h.k1 hb, box_later h.k2 hb, fun b1 b2 P Q e => by obtain ⟨h1, h2, h3⟩ := h.rows b1 b2 P Q e; exact ⟨h1.later hb, h2.later hb, h3⟩⟩
theorem box_noncells {b l : Nat} {t : TypeId} {v : Value} {o : Obj} (h : Boxed W b t v) (hl : W.heap[l]? = some o) (hc : o.isCells = false) : b ≠ l := fun e => by
  subst e; unfold Boxed at h; rw [h] at hl; cases hl; cases hc
theorem row_noncells {b l : Nat} {v : Value} {g : Int} {o : Obj} (h : RowC W b v g) (hl : W.heap[l]? = some o) (hc : o.isCells = false) : b ≠ l := fun e => by
  subst e; unfold RowC at h; rw [h] at hl; cases hl; cases hc
theorem row_box {b c : Nat} {t : TypeId} {v u : Value} {g : Int} (h : RowC W b v g) (hc : Boxed W c t u) : b ≠ c := fun e => by
  subst e; unfold RowC at h; unfold Boxed at hc; rw [h] at hc; simp at hc
theorem TM.putObj (h : TM w vp vq out e r W) {l : Nat} {o : Obj} (o' : Obj) (hw : w.heap.size ≤ l) (hl : W.heap[l]? = some o) (hc : o.isCells = false) : TM w vp vq out e r (W.putObj l o') :=
  ⟨bel_put h.bel _ hw, box_keep h.res0 (World.putObj_heap_other (box_noncells h.res0 hl hc)), box_keep h.res1 (World.putObj_heap_other (box_noncells h.res1 hl hc)),
    by obtain ⟨vo, h1, h2⟩ := h.out; exact ⟨vo, box_keep h1 (World.putObj_heap_other (box_noncells h1 hl hc)), ownsRow_putObj h2 _ hl hc⟩,
    box_keep h.st (World.putObj_heap_other (box_noncells h.st hl hc)), box_keep h.k1 (World.putObj_heap_other (box_noncells h.k1 hl hc)), box_keep h.k2 (World.putObj_heap_other (box_noncells h.k2 hl hc)),
    fun b1 b2 P Q e => by
      obtain ⟨h1, h2, h3⟩ := h.rows b1 b2 P Q e
      obtain ⟨v1, l1, g1, r1, _⟩ := id h1
      obtain ⟨v2, l2, g2, r2, _⟩ := id h2
      exact ⟨h1.keep fun _ => World.putObj_heap_other (row_noncells r1 hl hc), h2.keep fun _ => World.putObj_heap_other (row_noncells r2 hl hc), h3⟩⟩
theorem TM.setE (h : TM w vp vq out e r W) (e' : Bool) : TM w vp vq out e' r (W.setCell ⟨w.heap.size + 1 + 1 + 1, 0, none⟩ (.bool e')) :=
  ⟨bel_set h.bel (by omega), box_keep h.res0 (heap_setCell_ne _ _ _ _ _ (by omega)), box_keep h.res1 (heap_setCell_ne _ _ _ _ _ (by omega)),
    by
      obtain ⟨vo, h1, h2⟩ := h.out
      refine ⟨vo, box_keep h1 (heap_setCell_ne _ _ _ _ _ (by omega)), owns_same h2 fun k hk => heap_setCell_ne _ _ _ _ _ fun e => ?_⟩
      obtain ⟨cur, hc⟩ := owns_cells h2 hk
      have h3 := h.st
      subst e
      unfold Boxed at h3
      rw [hc] at h3
      simp at h3,
    Boxed.set _ h.st, box_keep h.k1 (heap_setCell_ne _ _ _ _ _ (by omega)), box_keep h.k2 (heap_setCell_ne _ _ _ _ _ (by omega)),
    fun b1 b2 P Q e => by
      obtain ⟨h1, h2, h3⟩ := h.rows b1 b2 P Q e
      obtain ⟨v1, l1, g1, r1, _⟩ := id h1
      obtain ⟨v2, l2, g2, r2, _⟩ := id h2
      exact ⟨h1.other (row_box r1 h.st), h2.other (row_box r2 h.st), h3⟩⟩
theorem box_row {b : Nat} {t : TypeId} {v : Value} (h : Boxed W b t v) {c : Nat} {u : Value} {g : Int} (hr : RowC W c u g) : b ≠ c := fun e => row_box hr h e.symm
theorem TM.but2 (h : TM w vp vq out e r W) {b1 b2 : Nat} {P1 Q1 P2 Q2 : List Oq} (hr : r = some (b1, b2, P1, Q1)) (hb : But2 b1 b2 W W') (h1 : RL w W' b1 P2) (h2 : RL w W' b2 Q2) : TM w vp vq out e (some (b1, b2, P2, Q2)) W' ∧ KeepsOthers W W' := by
  obtain ⟨q1, q2, l1, l2⟩ := h.rows b1 b2 P1 Q1 hr
  obtain ⟨v1, _, g1, r1, _⟩ := id q1
  obtain ⟨v2, _, g2, r2, _⟩ := id q2
  have hk : ∀ {c : Nat} {t : TypeId} {v : Value}, Boxed W c t v → Boxed W' c t v := fun hc => box_keep hc (hb.block _ hc.lt (box_row hc r1) (box_row hc r2))
  refine ⟨⟨But2.bel h.bel hb l1 l2 h.bel.size, hk h.res0, hk h.res1, ?_, hk h.st, hk h.k1, hk h.k2, ?_⟩, hb.size, ?_⟩
  · obtain ⟨vo, h3, h4⟩ := h.out
    refine ⟨vo, hk h3, owns_same h4 fun k hk => ?_⟩
    obtain ⟨cur, hc⟩ := owns_cells h4 hk
    refine hb.block k (Array.getElem?_eq_some_iff.1 hc).1 (fun e => ?_) (fun e => ?_)
    · subst e; unfold RowC at r1; rw [hc] at r1; simp at r1
    · subst e; unfold RowC at r2; rw [hc] at r2; simp at r2
  · intro c1 c2 P Q e
    cases e
    exact ⟨h1, h2, l1, l2⟩
  · intro k o hk hc
    refine (hb.block k (Array.getElem?_eq_some_iff.1 hk).1 (fun e => ?_) (fun e => ?_)).trans hk
    · subst e; exact row_noncells r1 hk hc rfl
    · subst e; exact row_noncells r2 hk hc rfl
theorem TM.add (h : TM w vp vq out e r W) {vo v' : Value} {x : Oq} {tmp : Obj} {w1 : World} (hvo : Boxed W (w.heap.size + 1 + 1) 22 vo) (hown : W.ownsRow w.heap.size 30 3 vo out.length (cellsO out))
    (hown' : w1.ownsRow w.heap.size 30 3 v' (out ++ [x]).length (cellsO (out ++ [x]))) (hadd : Adds (W.alloc tmp) w1 vo v') :
    Boxed w1 (w.heap.size + 1 + 1) 22 vo ∧ TM w vp vq (out ++ [x]) e r (w1.setCell ⟨w.heap.size + 1 + 1, 0, none⟩ v') ∧ KeepsOthers W (w1.setCell ⟨w.heap.size + 1 + 1, 0, none⟩ v') := by
  obtain ⟨a1, a2, a3, a4, a5⟩ := Boxed.appended hvo (by decide) hown h.bel.size (by omega : w.heap.size ≤ w.heap.size + 1 + 1) hown' hadd.1
  have hk : ∀ {c : Nat} {t : TypeId} {v : Value}, t ≠ 30 → c ≠ w.heap.size + 1 + 1 → Boxed W c t v → Boxed (w1.setCell ⟨w.heap.size + 1 + 1, 0, none⟩ v') c t v := fun ht hc hb =>
    box_keep ((hb.alloc tmp).kept hadd.1 (hb.not_row ht hown)) (heap_setCell_ne _ _ _ _ _ hc)
  refine ⟨a1, ⟨h.bel.trans a5, hk (by decide) (by omega) h.res0, hk (by decide) (by omega) h.res1, ⟨v', a2, a3⟩, hk (by decide) (by omega) h.st, hk (by decide) (by omega) h.k1, hk (by decide) (by omega) h.k2, ?_⟩, a4⟩
  intro b1 b2 P Q e
  obtain ⟨h1, h2, h3⟩ := h.rows b1 b2 P Q e
  have hr : ∀ {b : Nat} {S : List Oq}, RL w W b S → RL w (w1.setCell ⟨w.heap.size + 1 + 1, 0, none⟩ v') b S := fun {b S} hb => by
    obtain ⟨u, _, g, r1, _⟩ := id hb
    refine hb.keep fun hlt => ?_
    rw [heap_setCell_ne _ _ _ _ _ (row_box r1 hvo)]
    refine (hadd.1.block b (by simp; omega) ?_).trans (Below.heap_alloc _ _ _ hlt)
    intro e2
    obtain ⟨cur, hc⟩ := owns_cells hown e2.symm
    unfold RowC at r1
    rw [hc] at r1
    simp at r1
  exact ⟨hr h1, hr h2, h3⟩
end

/-- what together knows of its lists -/
structure TL (p q P Q out : List Oq) (e : Bool) : Prop where
  tgt : ∃ f, P.length + Q.length < f ∧ ((wk f e P Q).map byO).map (out ++ ·) = (wk (p.length + q.length + 1) false p q).map byO
  alP : Al P
  alQ : Al Q
  al : Al out
  fP : Fit P
  fQ : Fit Q
  fit : Fit out
  len : out.length + P.length + Q.length ≤ p.length + q.length
theorem onn_fit {l : List Oq} (h : Fit l) (n : Int) : Fit (onn l n) := by
  cases l with
  | nil => exact h
  | cons x r =>
    rw [onn_cons]
    split
    · intro y hy
      rcases List.mem_cons.1 hy with rfl | hy
      · simp
      · exact h y (by simp [hy])
    · exact fun y hy => h y (by simp [hy])
theorem hdP_fit {l : List Oq} (h : Fit l) : (hdP l).2.2.length ≤ 140737488355328 := by
  cases l with
  | nil => simp [hdP]
  | cons x r => exact h x (by simp)
theorem mt_fit {P Q : List Oq} (hP : Fit P) (hQ : Fit Q) : (Ol.mt P Q).1.2.2.length ≤ 140737488355328 ∧ (Ol.mt P Q).2.2.2.length ≤ 140737488355328 := by
  have h1 := hdP_fit hP
  have h2 := hdP_fit hQ
  unfold Ol.mt
  split
  · exact ⟨h1, by simp [zO]⟩
  · split
    · exact ⟨by simp [zO], h2⟩
    · exact ⟨by rw [psO_text]; exact h1, by rw [psO_text]; exact h2⟩
theorem tail_fit {l : List Oq} (h : Fit l) : Fit l.tail := fun x hx => h x (List.mem_of_mem_tail hx)
theorem nx_fit {P Q : List Oq} (hP : Fit P) (hQ : Fit Q) : Fit (nxP P Q) ∧ Fit (nxQ P Q) := by
  unfold nxP nxQ
  constructor
  · split
    · exact tail_fit hP
    · split
      · exact hP
      · exact onn_fit hP _
  · split
    · exact hQ
    · split
      · exact tail_fit hQ
      · exact onn_fit hQ _
theorem tls_fit {m : Oq × Oq} (h1 : m.1.2.2.length ≤ 140737488355328) (h2 : m.2.2.2.length ≤ 140737488355328) : Fit (tls m) := by
  intro x hx
  unfold tls at hx
  by_cases h0 : (tld m).1 = 0
  · rw [if_pos h0] at hx; cases hx
  · rw [if_neg h0] at hx
    simp only [List.mem_cons, List.not_mem_nil, or_false] at hx
    subst hx
    unfold tld
    repeat' split
    all_goals first | exact h1 | exact h2 | simp [zO]
theorem tls_len (m : Oq × Oq) : (tls m).length ≤ 1 := by unfold tls; split <;> simp
/-- one place further, where both agree -/
theorem TL.step {p q P Q out : List Oq} {e : Bool} (h : TL p q P Q out e) (hne : ¬ (P = [] ∧ Q = [])) (hok : (mid (Ol.mt P Q) && (e || !agr (Ol.mt P Q))) = false) : TL p q (nxP P Q) (nxQ P Q) (out ++ tls (Ol.mt P Q)) (nxE (Ol.mt P Q) e) := by
  obtain ⟨f, hf, ht⟩ := h.tgt
  obtain ⟨f', rfl⟩ : ∃ f', f = f' + 1 := ⟨f - 1, by omega⟩
  have hl := nx_len h.alP h.alQ hne
  have hf2 := mt_fit h.fP h.fQ
  rw [wk_step h.alP h.alQ hne, hok, if_neg (by simp)] at ht
  refine ⟨⟨f', by omega, ?_⟩, (nx_al h.alP h.alQ).1, (nx_al h.alP h.alQ).2, ?_, (nx_fit h.fP h.fQ).1, (nx_fit h.fP h.fQ).2, ?_, ?_⟩
  · rw [← ht]
    cases (wk f' (nxE (Ol.mt P Q) e) (nxP P Q) (nxQ P Q)).map byO with
    | none => rfl
    | some s => simp
  · intro x hx
    rcases List.mem_append.1 hx with hx | hx
    · exact h.al x hx
    · exact mt_al h.alP h.alQ x hx
  · intro x hx
    rcases List.mem_append.1 hx with hx | hx
    · exact h.fit x hx
    · exact tls_fit hf2.1 hf2.2 x hx
  · have := tls_len (Ol.mt P Q)
    have := h.len
    rw [List.length_append]
    omega
/-- where they don't agree, they never go together -/
theorem TL.stop {p q P Q out : List Oq} {e : Bool} (h : TL p q P Q out e) (hne : ¬ (P = [] ∧ Q = [])) (hok : (mid (Ol.mt P Q) && (e || !agr (Ol.mt P Q))) = true) : (wk (p.length + q.length + 1) false p q).map byO = none := by
  obtain ⟨f, hf, ht⟩ := h.tgt
  obtain ⟨f', rfl⟩ : ∃ f', f = f' + 1 := ⟨f - 1, by omega⟩
  rw [wk_step h.alP h.alQ hne, if_pos hok] at ht
  rw [← ht]; rfl
theorem TL.end_ {p q out : List Oq} {e : Bool} (h : TL p q [] [] out e) : (wk (p.length + q.length + 1) false p q).map byO = some out := by
  obtain ⟨f, hf, ht⟩ := h.tgt
  obtain ⟨f', rfl⟩ : ∃ f', f = f' + 1 := ⟨f - 1, by omega⟩
  rw [← ht]
  simp [wk, byO]
theorem TL.start {p q : List Oq} (hp : Al p) (hq : Al q) (fp : Fit p) (fq : Fit q) : TL p q p q [] false :=
  ⟨⟨_, Nat.lt_succ_self _, (by cases (wk (p.length + q.length + 1) false p q).map byO <;> rfl)⟩, hp, hq, (fun x hx => by cases hx), fp, fq, (fun x hx => by cases hx), (by simp)⟩

end Go.Proofs.Ytcdjemheokmglab

namespace Go.Proofs.Ytcdjemheokmglab
open Go.RowKit Go.Proofs.Ytcdjemheokmglab.Ln Go.Proofs.Ytcdjemheokmglab.Ol

/-- how a round finds things: what is left of both, what was told, whether the middle has ended, where the rows lie -/
abbrev St11 := List Oq × List Oq × List Oq × Bool × Rw
def II (w : World) (vp vq : Value) (p q : List Oq) (x : St11) (W : World) : Prop := TM w vp vq x.2.2.1 x.2.2.2.1 x.2.2.2.2 W ∧ TL p q x.1 x.2.1 x.2.2.1 x.2.2.2.1
def Stp (x : St11) (v : Value) (y : St11) : Prop := ∃ b1 b2, ¬ (x.1 = [] ∧ x.2.1 = []) ∧ v = mV (Ol.mt x.1 x.2.1) ∧ x.2.2.2.2 = some (b1, b2, nxP x.1 x.2.1, nxQ x.1 x.2.1) ∧ y.1 = nxP x.1 x.2.1 ∧ y.2.1 = nxQ x.1 x.2.1 ∧ y.2.2.2.2 = x.2.2.2.2
/-- how it is left ahead of its end -/
def IX (w : World) (p q : List Oq) (c : Code) (W : World) : Prop := c = .ret ∧ Below w.heap.size w W ∧ Boxed W w.heap.size 22 (.slice none 0 0) ∧ Boxed W (w.heap.size + 1) 4 (.bool false) ∧ (wk (p.length + q.length + 1) false p q).map byO = none

theorem results_tog {fn : Func} {t u : Tmp} (h : fn.results = #[.cell t 22, .cell u 4]) (tmps : Array Value) (w : World) (b : Nat) (v : Value) (r : Bool) (hp : tmps.getD t undef = .pointer (some ⟨b, 0, none⟩)) (hq : tmps.getD u undef = .pointer (some ⟨b + 1, 0, none⟩)) (hb : Boxed w b 22 v) (hc : Boxed w (b + 1) 4 (.bool r)) (hv : ∃ a n c, v = .slice a n c) :
    (results fn tmps).run Try.prog w = .ok (.tuple #[v, .bool r]) w := by
  have q0 := hb.cell
  have q1 := hc.cell
  obtain ⟨a, n, c, rfl⟩ := hv
  rw [Array.getD_eq_getD_getElem?] at hp hq
  simp [results, h, hp, hq, go_sem, q0, q1]
theorem leaves_tog {fn : Func} {t u : Tmp} {tmps : Array Value} {R : Ending → World → Prop} {b : Nat} {a : Option Addr} {n c : Nat} {r : Bool} (h : fn.results = #[.cell t 22, .cell u 4]) (hp : tmps.getD t undef = .pointer (some ⟨b, 0, none⟩)) (hq : tmps.getD u undef = .pointer (some ⟨b + 1, 0, none⟩))
    (D : Nat) (W : World) (hK : W.heap[D]? = some (.deferred (some []))) (hb : Boxed W b 22 (.slice a n c)) (hc : Boxed W (b + 1) 4 (.bool r)) (hR : ∀ o', R (.returned (.tuple #[.slice a n c, .bool r])) (W.putObj D o')) : LeavesInM Fence.wide 5 Try.prog fn tmps R [{ target := .collected D, args := #[] }] .returning W := by
  refine ⟨by simp, Or.inl ⟨D, _, rfl, run_takeDeferred hK, ?_⟩⟩
  refine ⟨_, results_tog h tmps _ b _ r hp hq ?_ ?_ ⟨_, _, _, rfl⟩, hR _⟩
  · exact box_keep hb (World.putObj_heap_other (box_noncells hb hK rfl))
  · exact box_keep hc (World.putObj_heap_other (box_noncells hc hK rfl))

/-- a round's own: what is kept, where the meeting lies, and that what is no cells lies as it lay -/
structure RB (w : World) (vp vq : Value) (out : List Oq) (e : Bool) (r : Rw) (b : Nat) (x1 x2 : Int) (x3 : Tx) (y1 y2 : Int) (y3 : Tx) (W2 W : World) : Prop where
  tm : TM w vp vq out e r W
  mt : MtC W b (.int .i64 x1) (.int .i64 x2) (.string ⟨x3.toArray⟩) (.int .i64 y1) (.int .i64 y2) (.string ⟨y3.toArray⟩)
  ko : KeepsOthers W2 W
theorem RB.later {w : World} {vp vq : Value} {out : List Oq} {e : Bool} {r : Rw} {b : Nat} {x1 x2 : Int} {x3 : Tx} {y1 y2 : Int} {y3 : Tx} {W2 W W' : World} (h : RB w vp vq out e r b x1 x2 x3 y1 y2 y3 W2 W) (hb : Below W.heap.size W W') : RB w vp vq out e r b x1 x2 x3 y1 y2 y3 W2 W' :=
  ⟨h.tm.later hb, h.mt.later hb, h.ko.trans (keeps_below hb)⟩
theorem MtC.box {W : World} {b c : Nat} {c0 c1 c2 c3 c4 c5 v : Value} {t : TypeId} (h : MtC W b c0 c1 c2 c3 c4 c5) (hc : Boxed W c t v) : b ≠ c := fun e => by
  subst e; unfold MtC at h; unfold Boxed at hc; rw [h] at hc; simp at hc
theorem RB.setE {w : World} {vp vq : Value} {out : List Oq} {e : Bool} {r : Rw} {b : Nat} {x1 x2 : Int} {x3 : Tx} {y1 y2 : Int} {y3 : Tx} {W2 W : World} (h : RB w vp vq out e r b x1 x2 x3 y1 y2 y3 W2 W) (e' : Bool) : RB w vp vq out e' r b x1 x2 x3 y1 y2 y3 W2 (W.setCell ⟨w.heap.size + 1 + 1 + 1, 0, none⟩ (.bool e')) :=
  ⟨h.tm.setE e', h.mt.other (h.mt.box h.tm.st), h.ko.trans (KeepsOthers.setCell _ _ _)⟩
theorem IX.of {w : World} {vp vq : Value} {p q out : List Oq} {e : Bool} {r : Rw} {W : World} (h : TM w vp vq out e r W) (hn : (wk (p.length + q.length + 1) false p q).map byO = none) : IX w p q .ret ((W.setCell ⟨w.heap.size, 0, none⟩ (.slice none 0 0)).setCell ⟨w.heap.size + 1, 0, none⟩ (.bool false)) :=
  ⟨rfl, bel_set (bel_set h.bel (Nat.le_refl _)) (by omega), box_keep (Boxed.set _ h.res0) (heap_setCell_ne _ _ _ _ _ (by omega)), Boxed.set _ (box_keep h.res1 (heap_setCell_ne _ _ _ _ _ (by omega))), hn⟩

set_option maxRecDepth 4000 in
set_option maxHeartbeats 8000000 in
theorem together_any (vp vq : Value) (p q : List Oq) (w : World) (hp : OpsAt w vp p) (hq : OpsAt w vq q) (hlp : p.length ≤ 1099511627776) (hlq : q.length ≤ 1099511627776) (hAp : Al p) (hAq : Al q) (hFp : Fit p) (hFq : Fit q) :
    Calls Try.prog 17 #[vp, vq] w fun e w' => ∃ v', e = .returned (.tuple #[v', .bool ((wk (p.length + q.length + 1) false p q).map byO).isSome]) ∧ OpsAt w' v' (((wk (p.length + q.length + 1) false p q).map byO).getD []) ∧ Below w.heap.size w w' ∧ (∀ l, (wk (p.length + q.length + 1) false p q).map byO = some l → Fit l ∧ l.length ≤ p.length + q.length) := by
  have HP := hidden hp
  have HQ := hidden hq
  have HAP := hidden hAp
  have HAQ := hidden hAq
  have HTL := hidden (TL.start hAp hAq hFp hFq)
  obtain ⟨a1, c1, rfl⟩ := hp.shape
  obtain ⟨a2, c2, rfl⟩ := hq.shape
  clear hp hq hAp hAq hFp hFq
  refine (callsIn_wide (n := 5)).1 (callsIn_of_wp_marks Try.func17 rfl trivial (wpIn_wide.2 (wp_mono (Q := lookPost _ _) ?_ (fun e a w h => lookPost_is e a w h))) rfl)
  simp only [Try.ntmps17, List.size_toArray, List.length_cons, List.length_nil, Nat.reduceAdd, Nat.reduceSub, Array.replicate_succ, Array.replicate_zero, List.push_toArray, List.append_toArray, List.nil_append, List.cons_append]
  go_wp2_with fail
  refine (cmeetings_any a1 a2 p.length q.length c1 c2 _).mono ?_
  rintro e w2 ⟨rfl, hw2⟩
  have HI0 := hidden (show II w (.slice a1 p.length c1) (.slice a2 q.length c2) p q (p, q, [], false, none) w2 by
    rw [hw2]
    refine ⟨⟨by (with_reducible (repeat (first | exact Below.refl _ _ | exact Below.refl _ _ | apply bel_alloc | apply bel_put | apply bel_set | apply Below.drew | apply below_drewN | assumption | omega))), ?_, ?_, ⟨_, ?_, ⟨rfl, Or.inl ⟨rfl, rfl⟩⟩⟩, ?_, ?_, ?_, fun b1 b2 P Q e => by cases e⟩, HTL.out⟩
    · exact (((((Boxed.new w 22 (.slice none 0 0)).alloc _).alloc _).alloc _).alloc _).alloc _
    · have h := ((((Boxed.new (w.alloc (.cells #[.slice none 0 0] 22)) 4 (.bool false)).alloc (.cells #[.slice none 0 0] 22)).alloc (.cells #[.bool false] 4)).alloc (.cells #[.slice a1 p.length c1] 22)).alloc (.cells #[.slice a2 q.length c2] 22)
      simp only [World.size_alloc] at h; exact h
    · have h := (((Boxed.new ((w.alloc (.cells #[.slice none 0 0] 22)).alloc (.cells #[.bool false] 4)) 22 (.slice none 0 0)).alloc (.cells #[.bool false] 4)).alloc (.cells #[.slice a1 p.length c1] 22)).alloc (.cells #[.slice a2 q.length c2] 22)
      simp only [World.size_alloc] at h; exact h
    · have h := ((Boxed.new (((w.alloc (.cells #[.slice none 0 0] 22)).alloc (.cells #[.bool false] 4)).alloc (.cells #[.slice none 0 0] 22)) 4 (.bool false)).alloc (.cells #[.slice a1 p.length c1] 22)).alloc (.cells #[.slice a2 q.length c2] 22)
      simp only [World.size_alloc] at h; exact h
    · have h := (Boxed.new ((((w.alloc (.cells #[.slice none 0 0] 22)).alloc (.cells #[.bool false] 4)).alloc (.cells #[.slice none 0 0] 22)).alloc (.cells #[.bool false] 4)) 22 (.slice a1 p.length c1)).alloc (.cells #[.slice a2 q.length c2] 22)
      simp only [World.size_alloc] at h; exact h
    · have h := Boxed.new (((((w.alloc (.cells #[.slice none 0 0] 22)).alloc (.cells #[.bool false] 4)).alloc (.cells #[.slice none 0 0] 22)).alloc (.cells #[.bool false] 4)).alloc (.cells #[.slice a1 p.length c1] 22)) 22 (.slice a2 q.length c2)
      simp only [World.size_alloc] at h; exact h)
  have hw2s : w2.heap.size = w.heap.size + 1 + 1 + 1 + 1 + 1 + 1 := by rw [hw2]; simp
  clear hw2 HTL
  simp only [World.size_alloc]
  go_wp2_with fail
  refine wp_range_cells (gf := 35) (lb := #[.pointer (some ⟨w.heap.size + 1 + 1 + 1 + 1, 0, none⟩), .pointer (some ⟨w.heap.size + 1 + 1 + 1 + 1 + 1, 0, none⟩)]) rfl (enters_of Try.func35 (by kernel_rfl) rfl) rfl (II w (.slice a1 p.length c1) (.slice a2 q.length c2) p q) (IX w p q) Stp (fun x => x.1 = [] ∧ x.2.1 = [])
    (fun x W o h => ⟨h.1.later (bel_alloc (Below.refl _ W) o), h.2⟩) (fun x W l o o' h hl ho hc => ⟨h.1.putObj o' (by omega) ho hc, h.2⟩)
    (fun c W l o o' h hl ho hc => ⟨h.1, bel_put h.2.1 _ (by omega), box_keep h.2.2.1 (World.putObj_heap_other (box_noncells h.2.2.1 ho hc)), box_keep h.2.2.2.1 (World.putObj_heap_other (box_noncells h.2.2.2.1 ho hc)), h.2.2.2.2⟩) (p, q, [], false, none) HI0.out ?hround ?hiter ?hdone ?hstop
  case hround =>
    rintro l ⟨P, Q, out, e, r⟩ y0 v W hI ⟨b1, b2, hne, rfl, hr, hy1, hy2, hy3⟩ hl0 hlW hlo
    have hsem : ∀ (ρ : Operand → Value) (o : Oper), (∀ c, o.op ≠ .defer c) → Oper.semAt (some l) ρ o = execOp ρ o := fun ρ o h => Oper.semAt_some l ρ o h
    have hmx : Try.prog.follows .mixedOrders = true := by kernel_rfl
    simp only at hne hr hy1 hy2 hy3
    have HNE := hidden hne
    have HRR := hidden hr
    have HTL := hidden hI.2
    have HF := hidden (mt_fit hI.2.fP hI.2.fQ)
    have hwl : w.heap.size ≤ W.heap.size := hI.1.bel.size
    have HST := hidden (fun (h : (mid (Ol.mt P Q) && (e || !agr (Ol.mt P Q))) = false) => TL.step HTL.out HNE.out h)
    have HSP := hidden (fun (h : (mid (Ol.mt P Q) && (e || !agr (Ol.mt P Q))) = true) => TL.stop HTL.out HNE.out h)
    have HTMP := hidden (fun (o o' : Obj) => show TM w (.slice a1 p.length c1) (.slice a2 q.length c2) out e r ((W.alloc o).putObj l o') by
      obtain ⟨oo, h1, h2⟩ := hlo
      exact (hI.1.later (bel_alloc (Below.refl _ _) o)).putObj o' (by omega) ((Below.heap_alloc _ _ _ hlW).trans h1) h2)
    have HLEN := hidden (show out.length ≤ 2199023255552 by have h := hI.2.len; simp only at h; omega)
    clear hI hne hr hy1 hy2 hy3 hlo
    obtain ⟨m, hm⟩ : ∃ m, Ol.mt P Q = m := ⟨_, rfl⟩
    simp only [hm] at HST HSP HF ⊢
    have HMT := hidden hm
    clear hm
    obtain ⟨⟨x1, x2, x3⟩, ⟨y1, y2, y3⟩⟩ := m
    unfold mV
    simp only [List.zip_toArray, List.zip_cons_cons, List.zip_nil_right]
    gi_wp2
    refine ⟨KeepsOthers.alloc _ _, fun o' => ?_⟩
    have HR2 := hidden (show RB w (.slice a1 p.length c1) (.slice a2 q.length c2) out e r W.heap.size x1 x2 x3 y1 y2 y3 ((W.alloc (mtO ((x1, x2, x3), (y1, y2, y3)))).putObj l o') ((W.alloc (mtO ((x1, x2, x3), (y1, y2, y3)))).putObj l o') from
      ⟨HTMP.out _ o', (MtC.new W ((x1, x2, x3), (y1, y2, y3))).keep (World.putObj_heap_other (by omega)), KeepsOthers.refl _⟩)
    clear HTMP
    unfold mtO at HR2
    generalize World.putObj _ l o' = W2 at HR2 ⊢
    have hnew : w.heap.size + 1 + 1 + 1 ≠ W.heap.size := Ne.symm (HR2.out.mt.box HR2.out.tm.st)
    obtain ⟨m0, m1, m2, m3, m4, m5⟩ := HR2.out.mt.cells
    obtain ⟨bm, hbm⟩ : ∃ b, mid ((x1, x2, x3), (y1, y2, y3)) = b := ⟨_, rfl⟩
    have HBM := hidden hbm
    rw [hbm] at HST HSP
    clear hbm
    gi_wp2
    refine ⟨trivial, ?_⟩
    refine (CallsIn.inRound l (callsIn_wide.2 (cmid_any ((x1, x2, x3), (y1, y2, y3)) _))).mono ?_
    rintro e3 w3 ⟨rfl, hb3⟩
    rw [HBM.out]
    have HR3 := hidden (HR2.out.later hb3)
    clear hb3 HR2 m0 m1 m2 m3 m4 m5
    obtain ⟨m0, m1, m2, m3, m4, m5⟩ := HR3.out.mt.cells
    have s1 := HR3.out.tm.st.cell
    cases bm with
    | false =>
      have HOK := hidden (HST.out (by simp))
      have HNX := hidden (show nxE ((x1, x2, x3), (y1, y2, y3)) e = e by unfold nxE; rw [HBM.out]; rfl)
      obtain ⟨⟨z1, z2, z3⟩, hz⟩ : ∃ z, tld ((x1, x2, x3), (y1, y2, y3)) = z := ⟨_, rfl⟩
      have HZ := hidden hz
      have HTS := hidden (show tls ((x1, x2, x3), (y1, y2, y3)) = if z1 = 0 then [] else [(z1, z2, z3)] by unfold tls; rw [hz])
      clear hz
      gi_wp2
      refine ⟨trivial, ?_⟩
      refine (CallsIn.inRound l (callsIn_wide.2 (ctold_any ((x1, x2, x3), (y1, y2, y3)) _))).mono ?_
      rintro e9 w9 ⟨rfl, hb9⟩
      rw [HZ.out]
      have HR9 := hidden (HR3.out.later hb9)
      clear hb9 HR3 m0 m1 m2 m3 m4 m5 s1
      obtain ⟨vo, ho1, ho2⟩ := HR9.out.tm.out
      have HO1 := hidden ho1
      have HO2 := hidden ho2
      have c1 := ho1.cell
      have c1l := ho1.lt
      have hw9 := HR9.out.tm.bel.size
      clear ho1 ho2
      unfold opV
      by_cases hz1 : z1 = 0
      · have HTL0 := hidden (show TL p q (nxP P Q) (nxQ P Q) out e by have h := HOK.out; rw [HTS.out, if_pos hz1, List.append_nil, HNX.out] at h; exact h)
        clear HTS HOK HNX
        subst hz1
        gi_wp2
        exact ⟨(HR9.out.later (by (with_reducible (repeat (first | exact Below.refl _ _ | exact Below.refl _ _ | apply bel_alloc | apply bel_put | apply bel_set | apply Below.drew | apply below_drewN | assumption | omega))))).ko, (nxP P Q, nxQ P Q, out, e, r), ⟨b1, b2, HNE.out, by show _ = mV (Ol.mt P Q); rw [HMT.out]; rfl, HRR.out, rfl, rfl, rfl⟩, (HR9.out.later (by (with_reducible (repeat (first | exact Below.refl _ _ | exact Below.refl _ _ | apply bel_alloc | apply bel_put | apply bel_set | apply Below.drew | apply below_drewN | assumption | omega))))).tm, HTL0.out⟩
      · have hz2 : (z1 == 0) = false := by simpa using hz1
        have hz3 : (z1 != 0) = true := by simpa using hz1
        have HTL0 := hidden (show TL p q (nxP P Q) (nxQ P Q) (out ++ [(z1, z2, z3)]) e by have h := HOK.out; rw [HTS.out, if_neg hz1, HNX.out] at h; exact h)
        clear HTS HOK HNX
        have HR10 := hidden (HR9.out.later (bel_alloc (Below.refl _ _) (opO z1 z2 z3)))
        have HO1' := hidden (box_later HO1.out (bel_alloc (Below.refl _ _) (opO z1 z2 z3)))
        have HO2' := hidden (owns_later HO2.out (bel_alloc (Below.refl _ _) (opO z1 z2 z3)))
        unfold opO at HR10 HO1' HO2'
        gi_wp2_with (gi_at_builtin; refine wpListIn_append_ops _ rfl _ _ rfl w.heap.size vo (.slice (some ⟨w9.heap.size + 1, 0, none⟩) 1 1) out [(z1, z2, z3)] rfl rfl (owns_later HO2'.out (bel_alloc (Below.refl _ _) _)) (ops_oneAt _ _ _ _ _ (by simp)) (by have := HLEN.out; simp; omega) (by simp; omega) ?_; intro v10 w10 hown10 hadd10; obtain ⟨g10, cp10, rfl⟩ := ownsRow_succ (by rw [List.length_append] at hown10; exact hown10); have hq := TM.add HR10.out.tm HO1'.out HO2'.out hown10 hadd10; have hc1 := hq.1.cell; have hf1 := hq.1.frozen; have HQ := hidden hq.2; clear hown10 hadd10 hq)
        exact ⟨HR10.out.ko.trans HQ.out.2, (nxP P Q, nxQ P Q, out ++ [(z1, z2, z3)], e, r), ⟨b1, b2, HNE.out, by show _ = mV (Ol.mt P Q); rw [HMT.out]; rfl, HRR.out, rfl, rfl, rfl⟩, HQ.out.1, HTL0.out⟩
    | true =>
      have r0 := HR3.out.tm.res0.cell
      have r0f := HR3.out.tm.res0.frozen
      have r0l := HR3.out.tm.res0.lt
      have r1 := HR3.out.tm.res1.cell
      have r1f := HR3.out.tm.res1.frozen
      have r1l := HR3.out.tm.res1.lt
      cases e with
      | true =>
        gi_wp2
        refine ⟨trivial, ?_⟩
        gi_wp2
        exact ⟨(HR3.out.ko.trans (KeepsOthers.setCell _ _ _)).trans (KeepsOthers.setCell _ _ _), IX.of HR3.out.tm (HSP.out (by simp))⟩
      | false =>
        obtain ⟨ba, hba⟩ : ∃ b, agr ((x1, x2, x3), (y1, y2, y3)) = b := ⟨_, rfl⟩
        have HBA := hidden hba
        rw [hba] at HST HSP
        clear hba
        gi_wp2
        refine ⟨trivial, ?_⟩
        refine (CallsIn.inRound l (callsIn_wide.2 (cagree_any ((x1, x2, x3), (y1, y2, y3)) _))).mono ?_
        rintro e4 w4 ⟨rfl, hb4⟩
        rw [HBA.out]
        have HR4 := hidden (HR3.out.later hb4)
        clear hb4 HR3 m0 m1 m2 m3 m4 m5 s1 r0 r0f r0l r1 r1f r1l
        obtain ⟨m0, m1, m2, m3, m4, m5⟩ := HR4.out.mt.cells
        cases ba with
        | false =>
          have r0 := HR4.out.tm.res0.cell
          have r0f := HR4.out.tm.res0.frozen
          have r0l := HR4.out.tm.res0.lt
          have r1 := HR4.out.tm.res1.cell
          have r1f := HR4.out.tm.res1.frozen
          have r1l := HR4.out.tm.res1.lt
          gi_wp2
          exact ⟨(HR4.out.ko.trans (KeepsOthers.setCell _ _ _)).trans (KeepsOthers.setCell _ _ _), IX.of HR4.out.tm (HSP.out (by simp))⟩
        | true =>
          have HOK := hidden (HST.out (by simp))
          obtain ⟨bp, hbp⟩ : ∃ b, opn (x1, x2, x3) = b := ⟨_, rfl⟩
          have HBP := hidden hbp
          clear hbp
          gi_wp2
          refine ⟨trivial, ?_⟩
          refine (CallsIn.inRound l (callsIn_wide.2 (copen_any (x1, x2, x3) _ HF.out.1))).mono ?_
          rintro e5 w5 ⟨rfl, hb5⟩
          rw [HBP.out]
          have HR5 := hidden (HR4.out.later hb5)
          clear hb5 HR4 m0 m1 m2 m3 m4 m5
          obtain ⟨m0, m1, m2, m3, m4, m5⟩ := HR5.out.mt.cells
          cases bp with
          | true =>
            have HNX := hidden (show nxE ((x1, x2, x3), (y1, y2, y3)) false = true by unfold nxE; rw [HBM.out]; simp [HBP.out])
            have HR6 := hidden (HR5.out.setE true)
            have s1 := HR5.out.tm.st.cell
            have s1f := HR5.out.tm.st.frozen
            have s1l := HR5.out.tm.st.lt
            gi_wp2
            refine ⟨trivial, ?_⟩
            obtain ⟨⟨z1, z2, z3⟩, hz⟩ : ∃ z, tld ((x1, x2, x3), (y1, y2, y3)) = z := ⟨_, rfl⟩
            have HZ := hidden hz
            have HTS := hidden (show tls ((x1, x2, x3), (y1, y2, y3)) = if z1 = 0 then [] else [(z1, z2, z3)] by unfold tls; rw [hz])
            clear hz
            gi_wp2
            refine ⟨trivial, ?_⟩
            refine (CallsIn.inRound l (callsIn_wide.2 (ctold_any ((x1, x2, x3), (y1, y2, y3)) _))).mono ?_
            rintro e9 w9 ⟨rfl, hb9⟩
            rw [HZ.out]
            have HR9 := hidden (HR6.out.later hb9)
            clear hb9 HR6 m0 m1 m2 m3 m4 m5 s1
            obtain ⟨vo, ho1, ho2⟩ := HR9.out.tm.out
            have HO1 := hidden ho1
            have HO2 := hidden ho2
            have c1 := ho1.cell
            have c1l := ho1.lt
            have hw9 := HR9.out.tm.bel.size
            clear ho1 ho2
            unfold opV
            by_cases hz1 : z1 = 0
            · have HTL0 := hidden (show TL p q (nxP P Q) (nxQ P Q) out true by have h := HOK.out; rw [HTS.out, if_pos hz1, List.append_nil, HNX.out] at h; exact h)
              clear HTS HOK HNX
              subst hz1
              gi_wp2
              exact ⟨(HR9.out.later (by (with_reducible (repeat (first | exact Below.refl _ _ | exact Below.refl _ _ | apply bel_alloc | apply bel_put | apply bel_set | apply Below.drew | apply below_drewN | assumption | omega))))).ko, (nxP P Q, nxQ P Q, out, true, r), ⟨b1, b2, HNE.out, by show _ = mV (Ol.mt P Q); rw [HMT.out]; rfl, HRR.out, rfl, rfl, rfl⟩, (HR9.out.later (by (with_reducible (repeat (first | exact Below.refl _ _ | exact Below.refl _ _ | apply bel_alloc | apply bel_put | apply bel_set | apply Below.drew | apply below_drewN | assumption | omega))))).tm, HTL0.out⟩
            · have hz2 : (z1 == 0) = false := by simpa using hz1
              have hz3 : (z1 != 0) = true := by simpa using hz1
              have HTL0 := hidden (show TL p q (nxP P Q) (nxQ P Q) (out ++ [(z1, z2, z3)]) true by have h := HOK.out; rw [HTS.out, if_neg hz1, HNX.out] at h; exact h)
              clear HTS HOK HNX
              have HR10 := hidden (HR9.out.later (bel_alloc (Below.refl _ _) (opO z1 z2 z3)))
              have HO1' := hidden (box_later HO1.out (bel_alloc (Below.refl _ _) (opO z1 z2 z3)))
              have HO2' := hidden (owns_later HO2.out (bel_alloc (Below.refl _ _) (opO z1 z2 z3)))
              unfold opO at HR10 HO1' HO2'
              gi_wp2_with (gi_at_builtin; refine wpListIn_append_ops _ rfl _ _ rfl w.heap.size vo (.slice (some ⟨w9.heap.size + 1, 0, none⟩) 1 1) out [(z1, z2, z3)] rfl rfl (owns_later HO2'.out (bel_alloc (Below.refl _ _) _)) (ops_oneAt _ _ _ _ _ (by simp)) (by have := HLEN.out; simp; omega) (by simp; omega) ?_; intro v10 w10 hown10 hadd10; obtain ⟨g10, cp10, rfl⟩ := ownsRow_succ (by rw [List.length_append] at hown10; exact hown10); have hq := TM.add HR10.out.tm HO1'.out HO2'.out hown10 hadd10; have hc1 := hq.1.cell; have hf1 := hq.1.frozen; have HQ := hidden hq.2; clear hown10 hadd10 hq)
              exact ⟨HR10.out.ko.trans HQ.out.2, (nxP P Q, nxQ P Q, out ++ [(z1, z2, z3)], true, r), ⟨b1, b2, HNE.out, by show _ = mV (Ol.mt P Q); rw [HMT.out]; rfl, HRR.out, rfl, rfl, rfl⟩, HQ.out.1, HTL0.out⟩
          | false =>
            obtain ⟨bq, hbq⟩ : ∃ b, opn (y1, y2, y3) = b := ⟨_, rfl⟩
            have HBQ := hidden hbq
            clear hbq
            gi_wp2
            refine ⟨trivial, ?_⟩
            refine (CallsIn.inRound l (callsIn_wide.2 (copen_any (y1, y2, y3) _ HF.out.2))).mono ?_
            rintro e6 w6 ⟨rfl, hb6⟩
            rw [HBQ.out]
            have HR6 := hidden (HR5.out.later hb6)
            clear hb6 HR5 m0 m1 m2 m3 m4 m5
            obtain ⟨m0, m1, m2, m3, m4, m5⟩ := HR6.out.mt.cells
            have HNX := hidden (show nxE ((x1, x2, x3), (y1, y2, y3)) false = bq by unfold nxE; rw [HBM.out]; simp [HBP.out, HBQ.out])
            have HR7 := hidden (HR6.out.setE bq)
            have s1 := HR6.out.tm.st.cell
            have s1f := HR6.out.tm.st.frozen
            have s1l := HR6.out.tm.st.lt
            obtain ⟨⟨z1, z2, z3⟩, hz⟩ : ∃ z, tld ((x1, x2, x3), (y1, y2, y3)) = z := ⟨_, rfl⟩
            have HZ := hidden hz
            have HTS := hidden (show tls ((x1, x2, x3), (y1, y2, y3)) = if z1 = 0 then [] else [(z1, z2, z3)] by unfold tls; rw [hz])
            clear hz
            gi_wp2
            refine ⟨trivial, ?_⟩
            refine (CallsIn.inRound l (callsIn_wide.2 (ctold_any ((x1, x2, x3), (y1, y2, y3)) _))).mono ?_
            rintro e9 w9 ⟨rfl, hb9⟩
            rw [HZ.out]
            have HR9 := hidden (HR7.out.later hb9)
            clear hb9 HR7 m0 m1 m2 m3 m4 m5 s1
            obtain ⟨vo, ho1, ho2⟩ := HR9.out.tm.out
            have HO1 := hidden ho1
            have HO2 := hidden ho2
            have c1 := ho1.cell
            have c1l := ho1.lt
            have hw9 := HR9.out.tm.bel.size
            clear ho1 ho2
            unfold opV
            by_cases hz1 : z1 = 0
            · have HTL0 := hidden (show TL p q (nxP P Q) (nxQ P Q) out bq by have h := HOK.out; rw [HTS.out, if_pos hz1, List.append_nil, HNX.out] at h; exact h)
              clear HTS HOK HNX
              subst hz1
              gi_wp2
              exact ⟨(HR9.out.later (by (with_reducible (repeat (first | exact Below.refl _ _ | exact Below.refl _ _ | apply bel_alloc | apply bel_put | apply bel_set | apply Below.drew | apply below_drewN | assumption | omega))))).ko, (nxP P Q, nxQ P Q, out, bq, r), ⟨b1, b2, HNE.out, by show _ = mV (Ol.mt P Q); rw [HMT.out]; rfl, HRR.out, rfl, rfl, rfl⟩, (HR9.out.later (by (with_reducible (repeat (first | exact Below.refl _ _ | exact Below.refl _ _ | apply bel_alloc | apply bel_put | apply bel_set | apply Below.drew | apply below_drewN | assumption | omega))))).tm, HTL0.out⟩
            · have hz2 : (z1 == 0) = false := by simpa using hz1
              have hz3 : (z1 != 0) = true := by simpa using hz1
              have HTL0 := hidden (show TL p q (nxP P Q) (nxQ P Q) (out ++ [(z1, z2, z3)]) bq by have h := HOK.out; rw [HTS.out, if_neg hz1, HNX.out] at h; exact h)
              clear HTS HOK HNX
              have HR10 := hidden (HR9.out.later (bel_alloc (Below.refl _ _) (opO z1 z2 z3)))
              have HO1' := hidden (box_later HO1.out (bel_alloc (Below.refl _ _) (opO z1 z2 z3)))
              have HO2' := hidden (owns_later HO2.out (bel_alloc (Below.refl _ _) (opO z1 z2 z3)))
              unfold opO at HR10 HO1' HO2'
              gi_wp2_with (gi_at_builtin; refine wpListIn_append_ops _ rfl _ _ rfl w.heap.size vo (.slice (some ⟨w9.heap.size + 1, 0, none⟩) 1 1) out [(z1, z2, z3)] rfl rfl (owns_later HO2'.out (bel_alloc (Below.refl _ _) _)) (ops_oneAt _ _ _ _ _ (by simp)) (by have := HLEN.out; simp; omega) (by simp; omega) ?_; intro v10 w10 hown10 hadd10; obtain ⟨g10, cp10, rfl⟩ := ownsRow_succ (by rw [List.length_append] at hown10; exact hown10); have hq := TM.add HR10.out.tm HO1'.out HO2'.out hown10 hadd10; have hc1 := hq.1.cell; have hf1 := hq.1.frozen; have HQ := hidden hq.2; clear hown10 hadd10 hq)
              exact ⟨HR10.out.ko.trans HQ.out.2, (nxP P Q, nxQ P Q, out ++ [(z1, z2, z3)], bq, r), ⟨b1, b2, HNE.out, by show _ = mV (Ol.mt P Q); rw [HMT.out]; rfl, HRR.out, rfl, rfl, rfl⟩, HQ.out.1, HTL0.out⟩
  case hiter =>
    intro l J Jx W hJ hst h0 hY
    refine (cseq1_any w (.slice a1 p.length c1) (.slice a2 q.length c2) p q (w.heap.size + 1 + 1 + 1 + 1) l (fun P Q r W => ∃ out e, J (P, Q, out, e, r) W) Jx HP.out HQ.out HAP.out HAQ.out ?_ ?_ ?_ ?_ ?_ ?_ W ⟨[], false, h0⟩).mono ?_
    · rintro P Q r W ⟨out, e, h⟩
      exact (hJ _ _ h).1.bel
    · rintro P Q W ⟨out, e, h⟩
      exact ⟨(hJ _ _ h).1.k1, (hJ _ _ h).1.k2⟩
    · rintro P Q b1 b2 P' Q' W ⟨out, e, h⟩
      have h1 := (hJ _ _ h).1.rows _ _ _ _ rfl
      exact ⟨h1.1, h1.2.1⟩
    · rintro P Q b1 b2 W W' ⟨out, e, h⟩ hb l1 l2 hne r1 r2
      have ht := (hJ _ _ h).1.later hb
      have hs := (hJ _ _ h).1.bel.size
      exact ⟨out, e, hst _ (P, Q, out, e, some (b1, b2, P, Q)) _ _ h ⟨⟨ht.bel, ht.res0, ht.res1, ht.out, ht.st, ht.k1, ht.k2, fun c1 c2 P1 Q1 e1 => by cases e1; exact ⟨r1, r2, Nat.le_trans hs l1, Nat.le_trans hs l2⟩⟩, (hJ _ _ h).2⟩ (keeps_below hb)⟩
    · rintro P Q b1 b2 P' Q' P'' Q'' W W' ⟨out, e, h⟩ hb r1 r2
      have ht := TM.but2 (hJ _ _ h).1 rfl hb r1 r2
      exact ⟨out, e, hst _ (P, Q, out, e, some (b1, b2, P'', Q'')) _ _ h ⟨ht.1, (hJ _ _ h).2⟩ ht.2⟩
    · rintro P Q b1 b2 W hne ⟨out, e, h⟩ m
      obtain ⟨fn, tmps, assign, body, hy, hR⟩ := hY (P, Q, out, e, some (b1, b2, nxP P Q, nxQ P Q)) (mV (Ol.mt P Q)) (nxP P Q, nxQ P Q, out, e, some (b1, b2, nxP P Q, nxQ P Q)) W ⟨b1, b2, hne, rfl, rfl, rfl, rfl, rfl⟩ h m
      refine ⟨fn, tmps, assign, body, hy, hR.mono ?_⟩
      rintro e' W' (⟨rfl, ⟨yP, yQ, yo, ye, yr⟩, ⟨_, _, _, _, _, hy1, hy2, hy3⟩, hj⟩ | h')
      · simp only at hy1 hy2 hy3
        subst hy1 hy2 hy3
        exact Or.inl ⟨rfl, yo, ye, hj⟩
      · exact Or.inr h'
    · rintro e W' ⟨hv, ⟨r, out, e', hj⟩ | hj⟩
      · exact ⟨hv, Or.inl ⟨_, hj, rfl, rfl⟩⟩
      · exact ⟨hv, Or.inr hj⟩
  case hdone =>
    rintro D ⟨P, Q, out, e, r⟩ W hD ⟨hp0, hq0⟩ hI hK hold
    simp only at hp0 hq0
    subst hp0 hq0
    have HE := hidden (show (wk (p.length + q.length + 1) false p q).map byO = some out from TL.end_ hI.2)
    have HFI := hidden (show Fit out ∧ out.length ≤ p.length + q.length from ⟨hI.2.fit, by have h := hI.2.len; simpa using h⟩)
    have ht : TM w (.slice a1 p.length c1) (.slice a2 q.length c2) out e r W := hI.1
    obtain ⟨vo, ho1, ho2⟩ := ht.out
    obtain ⟨ao, no, co, hvo⟩ : ∃ a n c, vo = .slice a n c := by
      rcases owns_form ho2 with ⟨rfl, _⟩ | ⟨g, cp, rfl, _⟩
      · exact ⟨_, _, _, rfl⟩
      · exact ⟨_, _, _, rfl⟩
    subst hvo
    have HT := hidden ht
    have HO1 := hidden ho1
    have HO2 := hidden ho2
    have HK := hidden hK
    have c1 := ho1.cell
    have r0 := ht.res0.cell
    have r0f := ht.res0.frozen
    have r1 := ht.res1.cell
    have r1f := ht.res1.frozen
    clear hI ht ho1 ho2 hold hK
    go_wp2_with fail
    refine leaves_tog (b := w.heap.size) rfl rfl rfl D _ ?_ (box_keep (Boxed.set _ HT.out.res0) (heap_setCell_ne _ _ _ _ _ (by omega))) (Boxed.set _ (box_keep HT.out.res1 (heap_setCell_ne _ _ _ _ _ (by omega)))) ?_
    · exact ((KeepsOthers.setCell _ _ _).trans (KeepsOthers.setCell _ _ _)).same _ _ HK.out rfl
    · intro o'
      have hk : ∀ k, (Value.slice ao no co).ownBlock = some k → ((W.setCell ⟨w.heap.size, 0, none⟩ (.slice ao no co)).setCell ⟨w.heap.size + 1, 0, none⟩ (.bool true)).heap[k]? = W.heap[k]? := fun k hk => by
        obtain ⟨cur, hc⟩ := owns_cells HO2.out hk
        rw [heap_setCell_ne _ _ _ _ _ (fun e => by subst e; have h1 := HT.out.res1; unfold Boxed at h1; rw [hc] at h1; simp at h1), heap_setCell_ne _ _ _ _ _ (fun e => by subst e; have h1 := HT.out.res0; unfold Boxed at h1; rw [hc] at h1; simp at h1)]
      have hK2 : ((W.setCell ⟨w.heap.size, 0, none⟩ (.slice ao no co)).setCell ⟨w.heap.size + 1, 0, none⟩ (.bool true)).heap[D]? = some (.deferred (some [])) := ((KeepsOthers.setCell _ _ _).trans (KeepsOthers.setCell _ _ _)).same _ _ HK.out rfl
      refine ⟨_, by rw [HE.out]; rfl, ?_, bel_put (bel_set (bel_set HT.out.bel (Nat.le_refl _)) (by omega)) _ (by omega), fun l hl => ?_⟩
      · rw [HE.out]
        exact OpsAt.of_owns (ownsRow_putObj (owns_same HO2.out hk) _ hK2 rfl)
      · rw [HE.out] at hl
        cases hl
        exact HFI.out
  case hstop =>
    rintro D c W hD ⟨rfl, hB, hb, hc, hn⟩ hK _
    have HB := hidden hB
    have HB1 := hidden hb
    have HB2 := hidden hc
    have HN := hidden hn
    have HK := hidden hK
    clear hB hb hc hn hK
    go_wp2_with fail
    refine leaves_tog (b := w.heap.size) rfl rfl rfl D _ HK.out HB1.out HB2.out ?_
    intro o'
    refine ⟨_, by rw [HN.out]; rfl, ?_, bel_put HB.out _ (by omega), fun l hl => by rw [HN.out] at hl; cases hl⟩
    rw [HN.out]
    exact OpsAt.nil _ _ _

end Go.Proofs.Ytcdjemheokmglab
