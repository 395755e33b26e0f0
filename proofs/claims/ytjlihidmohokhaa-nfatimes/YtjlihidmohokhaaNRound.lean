/-
  What is known between two rounds of a search at one place, and what the iterator makes of it; conditions: how many states and bytes there are.
-/
import Derived.Test.YtjlihidmohokhaaNState2
namespace Go.Proofs.Ytjlihidmohokhaa
open Go.RowKit Go.Proofs.Ytjlihidmohokhaa.Gl

structure RS where
  T : Nat → Prop
  lv : Value
  L : List Nat
  H : Nat → Nat
  K : Nat
  nv : Value
  X : List Nat
structure RI (E : LC) (b10 at_ c1 : Nat) (nowv : Value) (N : List Nat) (x : RS) (W : World) : Prop where
  ls : LS E b10 at_ nowv N x.lv x.L x.H x.nv x.X W
  k1 : Boxed W c1 52 (.pointer (some ⟨E.Q, 0, none⟩))
  k2 : Boxed W (c1 + 1) 58 nowv
  k3 : Boxed W (c1 + 1 + 1) 3 (.int .i64 at_)
  e0 : E.w.heap.size ≤ c1
  e1 : c1 + 1 ≠ E.b9
  e2 : c1 + 1 + 1 ≠ E.Sb
  e3 : some (c1 + 1 + 1) ≠ x.lv.ownBlock
  e4 : some (c1 + 1 + 1) ≠ x.nv.ownBlock
  x1 : x.X.length ≤ x.K
  x2 : ∀ p ∈ x.X, RR E.ss E.s E.first E.whole (at_ + 1) p ∧ p < E.ss.length
  x3 : ∀ q0 q, x.T q0 → Stp E.ss E.s q0 at_ q (at_ + 1) → q ∈ x.X
  x4 : x.T 0 → ¬ (E.whole = false ∨ at_ = E.s.length)
theorem RI.later {E : LC} {b10 at_ c1 : Nat} {nowv : Value} {N : List Nat} {x : RS} {W W' : World} (h : RI E b10 at_ c1 nowv N x W) (hb : Below W.heap.size W W') : RI E b10 at_ c1 nowv N x W' :=
  ⟨h.ls.later hb, box_keep h.k1 (hb.block _ h.k1.lt), box_keep h.k2 (hb.block _ h.k2.lt), box_keep h.k3 (hb.block _ h.k3.lt), h.e0, h.e1, h.e2, h.e3, h.e4, h.x1, h.x2, h.x3, h.x4⟩
theorem RI.putObj {E : LC} {b10 at_ c1 : Nat} {nowv : Value} {N : List Nat} {x : RS} {W : World} (h : RI E b10 at_ c1 nowv N x W) {l : Nat} {o : Obj} (o' : Obj) (hl : E.w.heap.size ≤ l) (ho : W.heap[l]? = some o) (hc : o.isCells = false) : RI E b10 at_ c1 nowv N x (W.putObj l o') := by
  have bx : ∀ {k : Nat} {t : TypeId} {v : Value}, Boxed W k t v → Boxed (W.putObj l o') k t v := fun hb => box_keep hb (World.putObj_heap_other (fun e => by
    subst e
    unfold Boxed at hb
    rw [hb] at ho
    cases ho
    cases hc))
  exact ⟨h.ls.putObj o' hl ho hc, bx h.k1, bx h.k2, bx h.k3, h.e0, h.e1, h.e2, h.e3, h.e4, h.x1, h.x2, h.x3, h.x4⟩
theorem RI.walk {E : LC} {b10 at_ c1 : Nat} {nowv : Value} {N : List Nat} {T : Nat → Prop} {lv lv' : Value} {L L' : List Nat} {H H' : Nat → Nat} {K : Nat} {nv : Value} {X : List Nat} {W W' : World} (h : RI E b10 at_ c1 nowv N ⟨T, lv, L, H, K, nv, X⟩ W) (hw : WK E.w.heap.size E.Q E.Sb E.g E.c E.ss E.first E.s.length lv' L' H' W') (hg : Wg E.Q E.Sb lv lv' W W') : RI E b10 at_ c1 nowv N ⟨T, lv', L', H', K, nv, X⟩ W' ∧ KeepsOthers W W' := by
  obtain ⟨cur, hSb, _⟩ := h.ls.wk.seen
  have hQ := h.ls.wk.wb
  have box : ∀ {k : Nat} {t : TypeId} {v : Value}, Boxed W k t v → t ≠ 3 → t ≠ 60 → Boxed W' k t v := fun hb h3 h60 =>
    box_keep hb (hg.same _ hb.lt (types_ne hb hQ h60) (types_ne hb hSb h3) (hb.not_row h3 h.ls.wk.left))
  refine ⟨⟨h.ls.walk hw hg, box h.k1 (by decide) (by decide), box h.k2 (by decide) (by decide), box_keep h.k3 (hg.same _ h.k3.lt (types_ne h.k3 hQ (by decide)) h.e2 h.e3), h.e0, h.e1, h.e2, ?_, h.e4, h.x1, h.x2, h.x3, h.x4⟩, hg.size, fun k o ho hc => ?_⟩
  · rcases hg.own with e3 | ⟨gg, e3, hge⟩
    · show _ ≠ lv'.ownBlock
      rw [e3]; exact h.e3
    · show _ ≠ lv'.ownBlock
      rw [e3]; intro e; cases e; have := h.k3.lt; omega
  · have hne : ∀ {j : Nat} {cs : Array Value} {t : TypeId} {fr : Nat × Nat}, W.heap[j]? = some (.cells cs t fr) → k ≠ j := fun hj e => by
      subst e
      rw [ho] at hj
      cases hj
      cases hc
    refine (hg.same k (Array.getElem?_eq_some_iff.1 ho).1 (hne hQ) (hne hSb) (fun e => ?_)).trans ho
    obtain ⟨⟨cs, t, fr, hh⟩, _⟩ := IsC.row h.ls.wk.left e.symm
    exact hne hh rfl
/-- how the rounds at a place begin -/
theorem RI.start {E : LC} {b10 at_ : Nat} {nowv : Value} {N : List Nat} {lv : Value} {H : Nat → Nat} {nv : Value} {W : World} (h : LS E b10 at_ nowv N lv [] H nv [] W) :
    RI E b10 at_ W.heap.size nowv N ⟨fun _ => False, lv, [], H, 0, nv, []⟩ (((W.alloc (.cells #[.pointer (some ⟨E.Q, 0, none⟩)] 52)).alloc (.cells #[nowv] 58)).alloc (.cells #[.int .i64 at_] 3)) := by
  have e1 : (W.alloc (.cells #[.pointer (some ⟨E.Q, 0, none⟩)] 52)).heap.size = W.heap.size + 1 := by simp
  have e2 : ((W.alloc (.cells #[.pointer (some ⟨E.Q, 0, none⟩)] 52)).alloc (.cells #[nowv] 58)).heap.size = W.heap.size + 1 + 1 := by simp
  have hB : Below W.heap.size W (((W.alloc (.cells #[.pointer (some ⟨E.Q, 0, none⟩)] 52)).alloc (.cells #[nowv] 58)).alloc (.cells #[.int .i64 at_] 3)) := (((Below.refl _ W).alloc (Nat.le_refl _) _).alloc (by simp) _).alloc (by simp; omega) _
  refine ⟨h.later hB, ?_, ?_, ?_, h.bel.size, ?_, ?_, ?_, ?_, Nat.le_refl _, fun p hp => by simp at hp, fun q0 q e => e.elim, fun e => e.elim⟩
  · unfold Boxed
    rw [Below.heap_alloc _ _ _ (by omega), Below.heap_alloc _ _ _ (by omega), World.alloc_heap_new]
  · unfold Boxed
    rw [Below.heap_alloc _ _ _ (by omega), ← e1, World.alloc_heap_new]
  · unfold Boxed
    rw [← e2, World.alloc_heap_new]
  · have := h.v9.lt; omega
  · have := h.wk.seen.lt; omega
  · intro e; have := (h.wk.left.lt _ e.symm).2; omega
  · intro e; have := (h.next.lt _ e.symm).2; omega
/-- one round -/
def RStep (E : LC) (at_ : Nat) (x : RS) (v : Value) (y : RS) : Prop :=
  ∃ q : Nat, v = .int .i64 q ∧ Sk E.ss E.s at_ (RR E.ss E.s E.first E.whole at_) (fun p => x.T p ∨ p = q) x.T (x.K + 1) x.L x.H ∧ y.T = (fun p => x.T p ∨ p = q) ∧ y.lv = x.lv ∧ y.L = x.L ∧ y.H = x.H ∧ y.K = x.K + 1
/-- the last one is over -/
def RDone (E : LC) (at_ : Nat) (N : List Nat) (x : RS) : Prop := x.L = [] ∧ Sk E.ss E.s at_ (RR E.ss E.s E.first E.whole at_) x.T x.T x.K [] x.H ∧ ∀ p ∈ N, x.T p
/-- a round has found it -/
def RIx (E : LC) (c : Code) (W : World) : Prop := c = .ret ∧ Boxed W (E.w.heap.size + 1 + 1 + 1) 4 (.bool true) ∧ Below E.w.heap.size E.w W ∧ Fnd E.ss E.s E.first E.whole
theorem RIx.putObj {E : LC} {c : Code} {W : World} (h : RIx E c W) {l : Nat} {o : Obj} (o' : Obj) (hl : E.w.heap.size ≤ l) (ho : W.heap[l]? = some o) (hc : o.isCells = false) : RIx E c (W.putObj l o') := by
  refine ⟨h.1, box_keep h.2.1 (World.putObj_heap_other (fun e => ?_)), h.2.2.1.trans ⟨rfl, rfl, rfl, by simp, fun k hk => World.putObj_heap_other (by omega)⟩, h.2.2.2⟩
  subst e
  have h1 := h.2.1
  unfold Boxed at h1
  rw [h1] at ho
  cases ho
  cases hc

theorem iter_law {x : Nd} (E : LC) (b10 at_ c1 : Nat) (nowv : Value) (N : List Nat) (hm : Mach x E.ss E.first) (hsl : E.s.length ≤ 90000) (hat : at_ ≤ E.s.length) (hNl : N.length ≤ 1000000) (hN : From E.ss E.s at_ (RR E.ss E.s E.first E.whole at_) N) (lv : Value) (H : Nat → Nat) (nv : Value) (hH : ∀ q, q < E.ss.length → H q ≤ at_)
    (l : Nat) (J : RS → World → Prop) (Jx : World → Prop) (W : World) (hJ : ∀ x W, J x W → RI E b10 at_ c1 nowv N x W) (hst : ∀ x y W W', J x W → RI E b10 at_ c1 nowv N y W' → KeepsOthers W W' → J y W') (h0 : J ⟨fun _ => False, lv, [], H, 0, nv, []⟩ W)
    (hY : ∀ x v y0 W, RStep E at_ x v y0 → J x W → ∀ m, YieldAt Fence.wide m Try.prog l #[v] W fun e W' => (e = .returned (.bool true) ∧ ∃ y, RStep E at_ x v y ∧ J y W') ∨ (e = .returned (.bool false) ∧ Jx W')) :
    Calls Try.prog 44 (#[.func (.yield l) #[] #[]] ++ #[.pointer (some ⟨c1, 0, none⟩), .pointer (some ⟨c1 + 1, 0, none⟩), .pointer (some ⟨c1 + 1 + 1, 0, none⟩)]) W fun e W' => (∃ v, e = .returned v) ∧ ((∃ x, J x W' ∧ RDone E at_ N x) ∨ Jx W') := by
  refine (reached1_any E.w.heap.size E.Q E.Sb E.g E.c E.ss E.s E.first at_ (RR E.ss E.s E.first E.whole at_) nowv N c1 (c1 + 1) (c1 + 1 + 1) l
    (fun T lv L H K W => ∃ nv X, J ⟨T, lv, L, H, K, nv, X⟩ W) Jx ?_ ?_ ?_ ?_ (fun i t h => hm.all i t h) (fun p p' h hs => h.step hs) hN.1 hm.len (by omega) hat hNl W lv H ⟨nv, [], h0⟩ hH).mono ?_
  · rintro T lv L H K W ⟨nv, X, h⟩
    exact (hJ _ _ h).ls.wk
  · rintro T lv L H K W ⟨nv, X, h⟩
    have h2 := hJ _ _ h
    exact ⟨h2.k1, h2.k2, h2.k3, h2.ls.now, h2.ls.bel.size⟩
  · rintro T lv L H K W lv' L' H' W' ⟨nv, X, h⟩ hw hg
    have h2 := (hJ _ _ h).walk hw hg
    exact ⟨nv, X, hst _ _ _ _ h h2.1 h2.2⟩
  · rintro T q lv L H K W ⟨nv, X, h⟩ hs m
    obtain ⟨fn, tmps, assign, body, hy, hR⟩ := hY ⟨T, lv, L, H, K, nv, X⟩ (.int .i64 q) ⟨fun p => T p ∨ p = q, lv, L, H, K + 1, nv, X⟩ W ⟨q, rfl, hs, rfl, rfl, rfl, rfl, rfl⟩ h m
    refine ⟨fn, tmps, assign, body, hy, hR.mono ?_⟩
    rintro e W' (⟨rfl, y, ⟨q', hq, _, h1, h2, h3, h4, h5⟩, hj⟩ | h)
    · have h9 : (q : Int) = q' := by simpa using hq
      obtain rfl : q = q' := by omega
      obtain ⟨T', lv', L', H', K', nv', X'⟩ := y
      simp only at h1 h2 h3 h4 h5
      subst h1 h2 h3 h4 h5
      exact Or.inl ⟨rfl, nv', X', hj⟩
    · exact Or.inr h
  · rintro e W' ⟨hv, ⟨T, lv', H', K, ⟨nv', X', hj⟩, hs, hp⟩ | h⟩
    · exact ⟨hv, Or.inl ⟨_, hj, rfl, hs, hp⟩⟩
    · exact ⟨hv, Or.inr h⟩
/-- nothing is kept of a state -/
theorem RI.idle {E : LC} {b10 at_ c1 : Nat} {nowv : Value} {N : List Nat} {x : RS} {W : World} {q : Nat} {t : Sta} (h : RI E b10 at_ c1 nowv N x W) (ht : E.ss[q]? = some t) (hb : ¬ (t.kind = 2 ∧ at_ < E.s.length ∧ t.set (E.s.getD at_ 0).toNat = true)) (h0 : q = 0 → ¬ (E.whole = false ∨ at_ = E.s.length)) :
    RI E b10 at_ c1 nowv N ⟨fun p => x.T p ∨ p = q, x.lv, x.L, x.H, x.K + 1, x.nv, x.X⟩ W := by
  refine ⟨h.ls, h.k1, h.k2, h.k3, h.e0, h.e1, h.e2, h.e3, h.e4, Nat.le_succ_of_le h.x1, h.x2, fun q0 q' e hs => ?_, fun e => ?_⟩
  · rcases e with e | rfl
    · exact h.x3 q0 q' e hs
    · obtain ⟨t', ht', hs⟩ := hs
      rw [ht] at ht'
      cases ht'
      rcases hs with ⟨_, e, _⟩ | ⟨e1, e2, e3, _⟩ | ⟨_, _, e, _⟩ | ⟨_, _, e, _⟩
      · omega
      · exact absurd ⟨e1, e2, e3⟩ hb
      · omega
      · omega
  · rcases e with e | e
    · exact h.x4 e
    · exact h0 e.symm
/-- where a state goes on is kept -/
theorem RI.push {E : LC} {b10 at_ c1 : Nat} {nowv : Value} {N : List Nat} {x : RS} {W w1 w2 : World} {q g9 c9 : Nat} {t : Sta} (h : RI E b10 at_ c1 nowv N x W) (ht : E.ss[q]? = some t) (hk : t.kind = 2) (hlt : at_ < E.s.length) (hset : t.set (E.s.getD at_ 0).toNat = true) (hn : t.next < E.ss.length) (hr : RR E.ss E.s E.first E.whole at_ q) (h0 : q ≠ 0) (hb : Below W.heap.size W w1) (hown : w2.ownsRow E.w.heap.size 3 1 (.slice (some ⟨g9, 0, none⟩) (x.X.length + 1) c9) (x.X.length + 1) (ints (x.X ++ [t.next]))) (hg : w1.grownBy w2 x.nv.ownBlock) (hl : some g9 = x.nv.ownBlock ∨ w1.heap.size ≤ g9) :
    RI E b10 at_ c1 nowv N ⟨fun p => x.T p ∨ p = q, x.lv, x.L, x.H, x.K + 1, .slice (some ⟨g9, 0, none⟩) (x.X.length + 1) c9, x.X ++ [t.next]⟩ (w2.setCell ⟨E.b9, 0, none⟩ (.slice (some ⟨g9, 0, none⟩) (x.X.length + 1) c9)) := by
  have hp := h.ls.push hb hown hg hl
  have hs1 := hb.size
  have hstep : Stp E.ss E.s q at_ t.next (at_ + 1) := ⟨t, ht, Or.inr (Or.inl ⟨hk, hlt, hset, rfl, rfl⟩)⟩
  refine ⟨hp.1, box_keep h.k1 (hp.2 _ h.k1.lt (types_ne h.k1 h.ls.v9 (by decide)) (h.k1.not_row (by decide) h.ls.next)), box_keep h.k2 (hp.2 _ h.k2.lt h.e1 (h.k2.not_row (by decide) h.ls.next)), box_keep h.k3 (hp.2 _ h.k3.lt (types_ne h.k3 h.ls.v9 (by decide)) h.e4), h.e0, h.e1, h.e2, h.e3, ?_, ?_, fun p hp => ?_, fun q0 q' e hs => ?_, fun e => ?_⟩
  · intro e
    cases e
    rcases hl with hl | hl
    · exact h.e4 hl
    · have h8 := h.k3.lt
      exact absurd (Nat.lt_of_lt_of_le h8 (Nat.le_trans hs1 hl)) (Nat.lt_irrefl _)
  · rw [List.length_append]
    show x.X.length + 1 ≤ x.K + 1
    have := h.x1; omega
  · rcases List.mem_append.1 hp with hp | hp
    · exact h.x2 p hp
    · simp at hp
      subst hp
      exact ⟨hr.step hstep, hn⟩
  · rcases e with e | rfl
    · exact List.mem_append.2 (Or.inl (h.x3 q0 q' e hs))
    · obtain ⟨t', ht', hs⟩ := hs
      rw [ht] at ht'
      cases ht'
      rcases hs with ⟨_, e, _⟩ | ⟨_, _, _, _, rfl⟩ | ⟨_, _, e, _⟩ | ⟨_, _, e, _⟩
      · omega
      · simp
      · omega
      · omega
  · rcases e with e | e
    · exact h.x4 e
    · exact absurd e.symm h0

end Go.Proofs.Ytjlihidmohokhaa
