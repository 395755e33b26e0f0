
/-
  What the document's own Swap answers at any steps that lie in memory; conditions: the lists' and texts' lengths.
-/
import Derived.Test.YtcjjboomljbmbaaXSwap
namespace Go.Proofs.Ytcjjboomljbmbaa.Ol
open Go.Proofs.Ytcjjboomljbmbaa.Ln

/-- whose the last of some steps is; nobody's where there is none -/
def prv (l : List (Oq × Int)) : Int := match l.getLast? with
  | none => 0
  | some x => x.2
theorem prv_snoc (l : List (Oq × Int)) (x : Oq × Int) : prv (l ++ [x]) = x.2 := by unfold prv; simp
theorem fsO_app (a b : List (Oq × Int)) : fsO (a ++ b) = fsO a ++ fsO b := by
  induction a with
  | nil => rfl
  | cons x a ih => rw [List.cons_append, fsO, fsO, ih, List.append_assoc]
theorem snO_app (a b : List (Oq × Int)) : snO (a ++ b) = snO a ++ snO b := by
  induction a with
  | nil => rfl
  | cons x a ih => rw [List.cons_append, snO, snO, ih, List.append_assoc]
theorem takeB {l : List (Oq × Int)} {k : Nat} {x : Oq × Int} (h : l[k]? = some x) : l.take (k + 1) = l.take k ++ [x] := by rw [List.take_add_one, h]; rfl
theorem nbO_at {l : List (Oq × Int)} {k : Nat} {x : Oq × Int} (h : l[k]? = some x) (j : Int) : nbO j (l.drop k) = ((decide (0 < x.2) && decide (0 < j) && !(x.2 == j)) || nbO x.2 (l.drop (k + 1))) := by
  obtain ⟨hk, e⟩ := List.getElem?_eq_some_iff.1 h
  rw [List.drop_eq_getElem_cons hk, e, nbO]
theorem fsO_len (l : List (Oq × Int)) : (fsO l).length ≤ l.length := by
  induction l with
  | nil => exact Nat.le_refl _
  | cons x l ih =>
    rw [fsO, List.length_append, List.length_cons]
    have : (if x.2 = 0 ∨ x.2 = 2 then [x.1] else if x.1.1 = 3 then [(2, x.1.2.1, x.1.2.2)] else ([] : List Oq)).length ≤ 1 := by
      split
      · exact Nat.le_refl _
      · split <;> simp
    omega
theorem snO_len (l : List (Oq × Int)) : (snO l).length ≤ l.length := by
  induction l with
  | nil => exact Nat.le_refl _
  | cons x l ih =>
    rw [snO, List.length_append, List.length_cons]
    have : (if x.2 = 0 then [x.1] else if x.2 = 2 then (if x.1.1 = 4 then [(2, x.1.2.1, x.1.2.2)] else []) else ([x.1] : List Oq)).length ≤ 1 := by
      split
      · exact Nat.le_refl _
      · split
        · split <;> simp
        · exact Nat.le_refl _
    omega
theorem fsO_of (l : List (Oq × Int)) (Q : Tx → Prop) (h : ∀ z ∈ l, Q z.1.2.2) : ∀ x ∈ fsO l, Q x.2.2 := by
  induction l with
  | nil => intro x hx; cases hx
  | cons y l ih =>
    intro x hx
    have hy := h y (by simp)
    rw [fsO] at hx
    rcases List.mem_append.1 hx with hx | hx
    · split at hx
      · simp at hx; subst hx; exact hy
      · split at hx
        · simp at hx; subst hx; exact hy
        · cases hx
    · exact ih (fun z hz => h z (by simp [hz])) x hx
theorem snO_of (l : List (Oq × Int)) (Q : Tx → Prop) (h : ∀ z ∈ l, Q z.1.2.2) : ∀ x ∈ snO l, Q x.2.2 := by
  induction l with
  | nil => intro x hx; cases hx
  | cons y l ih =>
    intro x hx
    have hy := h y (by simp)
    rw [snO] at hx
    rcases List.mem_append.1 hx with hx | hx
    · split at hx
      · simp at hx; subst hx; exact hy
      · split at hx
        · split at hx
          · simp at hx; subst hx; exact hy
          · cases hx
        · simp at hx; subst hx; exact hy
    · exact ih (fun z hz => h z (by simp [hz])) x hx
def swpR : Option (List (Oq × Int) × Bool) → List Oq × List Oq × Int
  | none => ([], [], 6)
  | some r =>
    if right (nrm (byO r)) = true then
      if r.2 = true ∨ nbO 0 r.1 = true ∨ ¬ (right (nrm (fsO r.1)) = true ∧ right (nrm (snO r.1)) = true) then ([], [], 7)
      else (nrm (fsO r.1), nrm (snO r.1), 0)
    else ([], [], 6)
theorem swp_at {p q : List Oq} (hp : right p = true) (hq : right q = true) {R : Option (List (Oq × Int) × Bool)} (h : wk (p.length + q.length + 1) false p q = R) : swp p q = swpR R := by
  unfold swp
  rw [if_pos ⟨hp, hq⟩, h]
  cases R <;> rfl
theorem su_fs (l : List Tg) : su u3 (fs l) = su u3 (l.map tu) := by
  have h := (fs_cnt (sw l)).1
  rw [sw_sw, tu_sw] at h
  exact h
theorem su_sn (l : List Tg) : su u3 (sn l) ≤ su u3 (l.map tu) + su u4 (l.map tu) := by
  induction l with
  | nil => decide
  | cons x l ih => cases x <;> simp only [sn, List.map_cons, tu, su, u3, u4] <;> omega
theorem fsO_tot {l : List (Oq × Int)} (h : ∀ z ∈ l, Wf z) (hb : right (nrm (l.map (·.1))) = true) : tot 3 (fsO l) ≤ 549755813888 ∧ tot 3 (snO l) ≤ 549755813888 := by
  have hal : ∀ x ∈ l.map (·.1), al0 x := by
    intro x hx
    obtain ⟨z, hz, rfl⟩ := List.mem_map.1 hx
    exact (h z hz).1
  obtain ⟨_, _, h3, h4⟩ := (right_u hal).1 hb
  rw [← exB_tu] at h3 h4
  rw [← (su_facts _ (fsO_al l h)).1, ← (su_facts _ (snO_al l h)).1, ex_fsO l h, ex_snO l h, su_fs]
  have := su_sn (exB l)
  omega
end Go.Proofs.Ytcjjboomljbmbaa.Ol
namespace Go.Proofs.Ytcjjboomljbmbaa
open Go.RowKit Go.Proofs.Ytcjjboomljbmbaa.Ln Go.Proofs.Ytcjjboomljbmbaa.Ol

theorem adds_belS {w W W' : World} {v v' : Value} (hB : w.heap.size ≤ W.heap.size) (h : Adds W W' v v') (hv : ∀ k, v.ownBlock = some k → w.heap.size ≤ k) : Below w.heap.size W W' :=
  ⟨h.1.os, h.1.tape, h.1.output, h.1.size, fun k hk => h.1.block k (by omega) (fun e => by have := hv k e.symm; omega)⟩
theorem keptS {w W W' : World} {e : TypeId} {size n : Nat} {v u u' : Value} {cs : List Value} (h : W.ownsRow w.heap.size e size v n cs) (ha : Adds W W' u u') (hn : ∀ k, v.ownBlock = some k → u.ownBlock ≠ some k) : W'.ownsRow w.heap.size e size v n cs := by
  refine h.kept ha.1 ?_
  cases hc : v.ownBlock with
  | none => exact Or.inl rfl
  | some k => exact Or.inr (fun e => hn k hc e.symm)
theorem apartS {w W W' : World} {e : TypeId} {size n : Nat} {v u u' : Value} {cs : List Value} (h : W.ownsRow w.heap.size e size v n cs) (ha : Adds W W' u u') (hn : ∀ k, v.ownBlock = some k → u.ownBlock ≠ some k) : ∀ k, v.ownBlock = some k → u'.ownBlock ≠ some k := by
  intro k hk e
  rcases ha.2 with e2 | ⟨k2, e2, hk2⟩
  · exact hn k hk (e2 ▸ e)
  · rw [e2] at e; cases e
    have := (h.lt _ hk).2
    omega
theorem symmS {u v : Value} (h : ∀ k, u.ownBlock = some k → v.ownBlock ≠ some k) : ∀ k, v.ownBlock = some k → u.ownBlock ≠ some k := fun k h1 h2 => h k h2 h1
theorem apartOne {W W' : World} {v v' : Value} {T : Nat} (ha : Adds W W' v v') (hT : T < W.heap.size) (hn : ∀ k, v.ownBlock = some k → k ≠ T) : ∀ k, v'.ownBlock = some k → k ≠ T := by
  intro k hk
  rcases ha.2 with e | ⟨k2, e, hk2⟩
  · exact hn k (e ▸ hk)
  · rw [e] at hk; cases hk; omega
/-- what is answered -/
def SAns (p q : List Oq) (w : World) (e : Ending) (w' : World) : Prop := ∃ a b, e = .returned (.tuple #[a, b, .int .i64 (swp p q).2.2]) ∧ OpsAt w' a (swp p q).1 ∧ OpsAt w' b (swp p q).2.1 ∧ Below w.heap.size w w'
theorem sans_nil {p q : List Oq} {w w' : World} {n : Int} (h : swp p q = ([], [], n)) (hb : Below w.heap.size w w') : SAns p q w (.returned (.tuple #[.slice none 0 0, .slice none 0 0, .int .i64 n])) w' := by
  refine ⟨.slice none 0 0, .slice none 0 0, ?_, ?_, ?_, hb⟩
  · rw [h]
  · rw [h]; exact OpsAt.nil _ _ _
  · rw [h]; exact OpsAt.nil _ _ _
theorem sans_two {p q A B : List Oq} {w w' : World} {a b : Value} (h : swp p q = (A, B, 0)) (ha : OpsAt w' a A) (hB : OpsAt w' b B) (hb : Below w.heap.size w w') : SAns p q w (.returned (.tuple #[a, b, .int .i64 0])) w' := by
  refine ⟨a, b, ?_, ?_, ?_, hb⟩
  · rw [h]
  · rw [h]; exact ha
  · rw [h]; exact hB
/-- two rows of steps of one's own, that stand apart -/
structure K2 (w : World) (A B : List Oq) (va vb : Value) (W : World) : Prop where
  bel : Below w.heap.size w W
  oa : W.ownsRow w.heap.size 41 3 va A.length (cellsO A)
  ob : W.ownsRow w.heap.size 41 3 vb B.length (cellsO B)
  ab : ∀ k, va.ownBlock = some k → vb.ownBlock ≠ some k
theorem K2.later {w : World} {A B : List Oq} {va vb : Value} {W W' : World} (h : K2 w A B va vb W) (hb : Below W.heap.size W W') : K2 w A B va vb W' := ⟨h.bel.trans (hb.mono h.bel.size), owns_later h.oa hb, owns_later h.ob hb, h.ab⟩
theorem K2.alloc {w : World} {A B : List Oq} {va vb : Value} {W : World} (h : K2 w A B va vb W) (o : Obj) : K2 w A B va vb (W.alloc o) := h.later ((Below.refl _ W).alloc (Nat.le_refl _) o)
theorem K2.first {w : World} {A A' B : List Oq} {va va' vb : Value} {W W' : World} (h : K2 w A B va vb W) (ha : Adds W W' va va') (ho : W'.ownsRow w.heap.size 41 3 va' A'.length (cellsO A')) : K2 w A' B va' vb W' :=
  ⟨h.bel.trans (adds_belS h.bel.size ha (fun k e => (h.oa.lt k e).1)), ho, keptS h.ob ha (symmS h.ab), symmS (apartS h.ob ha (symmS h.ab))⟩
theorem K2.second {w : World} {A B B' : List Oq} {va vb vb' : Value} {W W' : World} (h : K2 w A B va vb W) (ha : Adds W W' vb vb') (ho : W'.ownsRow w.heap.size 41 3 vb' B'.length (cellsO B')) : K2 w A B' va vb' W' :=
  ⟨h.bel.trans (adds_belS h.bel.size ha (fun k e => (h.ob.lt k e).1)), keptS h.oa ha h.ab, ho, apartS h.oa ha h.ab⟩
/-- a step, and whose it is, in a block of their own -/
def Bc (W : World) (b : Nat) (x1 x2 : Int) (x3 : Tx) (x4 : Int) : Prop := W.heap[b]? = some (.cells #[.int .i64 x1, .int .i64 x2, .string ⟨x3.toArray⟩, .int .i64 x4] 55 (0, 0))
theorem Bc.lt {W : World} {b : Nat} {x1 x2 : Int} {x3 : Tx} {x4 : Int} (h : Bc W b x1 x2 x3 x4) : b < W.heap.size := (Array.getElem?_eq_some_iff.1 h).1
theorem Bc.cells {W : World} {b : Nat} {x1 x2 : Int} {x3 : Tx} {x4 : Int} (h : Bc W b x1 x2 x3 x4) : W.cell? ⟨b, 0, none⟩ = some (.int .i64 x1) ∧ W.cell? ⟨b, 1, none⟩ = some (.int .i64 x2) ∧ W.cell? ⟨b, 2, none⟩ = some (.string ⟨x3.toArray⟩) ∧ W.cell? ⟨b, 3, none⟩ = some (.int .i64 x4) := by
  unfold World.cell?; rw [show W.heap[b]? = _ from h]; exact ⟨rfl, rfl, rfl, rfl⟩
/-- a step in a block of its own -/
def Ob (W : World) (b : Nat) (x1 x2 : Int) (x3 : Tx) : Prop := W.heap[b]? = some (.cells #[.int .i64 x1, .int .i64 x2, .string ⟨x3.toArray⟩] 41 (0, 0))
theorem Ob.lt {W : World} {b : Nat} {x1 x2 : Int} {x3 : Tx} (h : Ob W b x1 x2 x3) : b < W.heap.size := (Array.getElem?_eq_some_iff.1 h).1
theorem Ob.cells {W : World} {b : Nat} {x1 x2 : Int} {x3 : Tx} (h : Ob W b x1 x2 x3) : W.cell? ⟨b, 0, none⟩ = some (.int .i64 x1) ∧ W.cell? ⟨b, 1, none⟩ = some (.int .i64 x2) ∧ W.cell? ⟨b, 2, none⟩ = some (.string ⟨x3.toArray⟩) := by
  unfold World.cell?; rw [show W.heap[b]? = _ from h]; exact ⟨rfl, rfl, rfl⟩
/-- both rows, and what is looked at, in a block apart -/
structure S2 (w : World) (A B : List Oq) (va vb : Value) (T : Nat) (x1 x2 : Int) (x3 : Tx) (x4 : Int) (W : World) : Prop where
  k : K2 w A B va vb W
  c : Bc W T x1 x2 x3 x4
  na : ∀ k, va.ownBlock = some k → k ≠ T
  nb : ∀ k, vb.ownBlock = some k → k ≠ T
theorem S2.begin {w : World} {A B : List Oq} {va vb : Value} {W : World} (h : K2 w A B va vb W) (x1 x2 : Int) (x3 : Tx) (x4 : Int) : S2 w A B va vb W.heap.size x1 x2 x3 x4 (W.alloc (byB x1 x2 x3 x4)) :=
  ⟨h.alloc _, World.alloc_heap_new W _, fun k hk => by have := (h.oa.lt k hk).2; omega, fun k hk => by have := (h.ob.lt k hk).2; omega⟩
theorem S2.later {w : World} {A B : List Oq} {va vb : Value} {T : Nat} {x1 x2 : Int} {x3 : Tx} {x4 : Int} {W W' : World} (h : S2 w A B va vb T x1 x2 x3 x4 W) (hb : Below W.heap.size W W') : S2 w A B va vb T x1 x2 x3 x4 W' :=
  ⟨h.k.later hb, (hb.block _ h.c.lt).trans h.c, h.na, h.nb⟩
/-- both rows, and two blocks apart: what is looked at, and what it is kept as -/
structure R2 (w : World) (A B : List Oq) (va vb : Value) (T D : Nat) (x1 x2 : Int) (x3 : Tx) (x4 : Int) (W : World) : Prop where
  k : K2 w A B va vb W
  c : Bc W T x1 x2 x3 x4
  d : Ob W D 2 x2 x3
  na : ∀ k, va.ownBlock = some k → k ≠ T
  nb : ∀ k, vb.ownBlock = some k → k ≠ T
  ma : ∀ k, va.ownBlock = some k → k ≠ D
  mb : ∀ k, vb.ownBlock = some k → k ≠ D
theorem R2.begin {w : World} {A B : List Oq} {va vb : Value} {T : Nat} {x1 x2 : Int} {x3 : Tx} {x4 : Int} {W : World} (h : S2 w A B va vb T x1 x2 x3 x4 W) : R2 w A B va vb T W.heap.size x1 x2 x3 x4 (W.alloc (opO 2 x2 x3)) :=
  ⟨h.k.alloc _, (((Below.refl _ W).alloc (Nat.le_refl _) _).block _ h.c.lt).trans h.c, World.alloc_heap_new W _, h.na, h.nb, fun k hk => by have := (h.k.oa.lt k hk).2; omega, fun k hk => by have := (h.k.ob.lt k hk).2; omega⟩
theorem R2.later {w : World} {A B : List Oq} {va vb : Value} {T D : Nat} {x1 x2 : Int} {x3 : Tx} {x4 : Int} {W W' : World} (h : R2 w A B va vb T D x1 x2 x3 x4 W) (hb : Below W.heap.size W W') : R2 w A B va vb T D x1 x2 x3 x4 W' :=
  ⟨h.k.later hb, (hb.block _ h.c.lt).trans h.c, (hb.block _ h.d.lt).trans h.d, h.na, h.nb, h.ma, h.mb⟩
theorem R2.alloc {w : World} {A B : List Oq} {va vb : Value} {T D : Nat} {x1 x2 : Int} {x3 : Tx} {x4 : Int} {W : World} (h : R2 w A B va vb T D x1 x2 x3 x4 W) (o : Obj) : R2 w A B va vb T D x1 x2 x3 x4 (W.alloc o) := h.later ((Below.refl _ W).alloc (Nat.le_refl _) o)
theorem R2.first {w : World} {A A' B : List Oq} {va va' vb : Value} {T D : Nat} {x1 x2 : Int} {x3 : Tx} {x4 : Int} {W W' : World} (h : R2 w A B va vb T D x1 x2 x3 x4 W) (ha : Adds W W' va va') (ho : W'.ownsRow w.heap.size 41 3 va' A'.length (cellsO A')) : R2 w A' B va' vb T D x1 x2 x3 x4 W' :=
  ⟨h.k.first ha ho, (ha.1.block _ h.c.lt (fun e => h.na _ e.symm rfl)).trans h.c, (ha.1.block _ h.d.lt (fun e => h.ma _ e.symm rfl)).trans h.d, apartOne ha h.c.lt h.na, h.nb, apartOne ha h.d.lt h.ma, h.mb⟩
theorem R2.second {w : World} {A B B' : List Oq} {va vb vb' : Value} {T D : Nat} {x1 x2 : Int} {x3 : Tx} {x4 : Int} {W W' : World} (h : R2 w A B va vb T D x1 x2 x3 x4 W) (ha : Adds W W' vb vb') (ho : W'.ownsRow w.heap.size 41 3 vb' B'.length (cellsO B')) : R2 w A B' va vb' T D x1 x2 x3 x4 W' :=
  ⟨h.k.second ha ho, (ha.1.block _ h.c.lt (fun e => h.nb _ e.symm rfl)).trans h.c, (ha.1.block _ h.d.lt (fun e => h.mb _ e.symm rfl)).trans h.d, h.na, apartOne ha h.c.lt h.nb, h.ma, apartOne ha h.d.lt h.mb⟩
/-- the frame, as far as it matters -/
structure FrSw (a : Act) (s7 s10 s11 s12 s13 : Value) : Prop where
  size : a.tmps.size = 138
  e7 : a.tmps.getD 7 undef = s7
  e10 : a.tmps.getD 10 undef = s10
  e11 : a.tmps.getD 11 undef = s11
  e12 : a.tmps.getD 12 undef = s12
  e13 : a.tmps.getD 13 undef = s13
  marks : a.defers = []
theorem FrSw_slots (tmps : Array Value) (h : tmps.size = 138) : tmps = #[tmps.getD 0 undef, tmps.getD 1 undef, tmps.getD 2 undef, tmps.getD 3 undef, tmps.getD 4 undef, tmps.getD 5 undef, tmps.getD 6 undef, tmps.getD 7 undef, tmps.getD 8 undef, tmps.getD 9 undef, tmps.getD 10 undef, tmps.getD 11 undef, tmps.getD 12 undef, tmps.getD 13 undef, tmps.getD 14 undef, tmps.getD 15 undef, tmps.getD 16 undef, tmps.getD 17 undef, tmps.getD 18 undef, tmps.getD 19 undef, tmps.getD 20 undef, tmps.getD 21 undef, tmps.getD 22 undef, tmps.getD 23 undef, tmps.getD 24 undef, tmps.getD 25 undef, tmps.getD 26 undef, tmps.getD 27 undef, tmps.getD 28 undef, tmps.getD 29 undef, tmps.getD 30 undef, tmps.getD 31 undef, tmps.getD 32 undef, tmps.getD 33 undef, tmps.getD 34 undef, tmps.getD 35 undef, tmps.getD 36 undef, tmps.getD 37 undef, tmps.getD 38 undef, tmps.getD 39 undef, tmps.getD 40 undef, tmps.getD 41 undef, tmps.getD 42 undef, tmps.getD 43 undef, tmps.getD 44 undef, tmps.getD 45 undef, tmps.getD 46 undef, tmps.getD 47 undef, tmps.getD 48 undef, tmps.getD 49 undef, tmps.getD 50 undef, tmps.getD 51 undef, tmps.getD 52 undef, tmps.getD 53 undef, tmps.getD 54 undef, tmps.getD 55 undef, tmps.getD 56 undef, tmps.getD 57 undef, tmps.getD 58 undef, tmps.getD 59 undef, tmps.getD 60 undef, tmps.getD 61 undef, tmps.getD 62 undef, tmps.getD 63 undef, tmps.getD 64 undef, tmps.getD 65 undef, tmps.getD 66 undef, tmps.getD 67 undef, tmps.getD 68 undef, tmps.getD 69 undef, tmps.getD 70 undef, tmps.getD 71 undef, tmps.getD 72 undef, tmps.getD 73 undef, tmps.getD 74 undef, tmps.getD 75 undef, tmps.getD 76 undef, tmps.getD 77 undef, tmps.getD 78 undef, tmps.getD 79 undef, tmps.getD 80 undef, tmps.getD 81 undef, tmps.getD 82 undef, tmps.getD 83 undef, tmps.getD 84 undef, tmps.getD 85 undef, tmps.getD 86 undef, tmps.getD 87 undef, tmps.getD 88 undef, tmps.getD 89 undef, tmps.getD 90 undef, tmps.getD 91 undef, tmps.getD 92 undef, tmps.getD 93 undef, tmps.getD 94 undef, tmps.getD 95 undef, tmps.getD 96 undef, tmps.getD 97 undef, tmps.getD 98 undef, tmps.getD 99 undef, tmps.getD 100 undef, tmps.getD 101 undef, tmps.getD 102 undef, tmps.getD 103 undef, tmps.getD 104 undef, tmps.getD 105 undef, tmps.getD 106 undef, tmps.getD 107 undef, tmps.getD 108 undef, tmps.getD 109 undef, tmps.getD 110 undef, tmps.getD 111 undef, tmps.getD 112 undef, tmps.getD 113 undef, tmps.getD 114 undef, tmps.getD 115 undef, tmps.getD 116 undef, tmps.getD 117 undef, tmps.getD 118 undef, tmps.getD 119 undef, tmps.getD 120 undef, tmps.getD 121 undef, tmps.getD 122 undef, tmps.getD 123 undef, tmps.getD 124 undef, tmps.getD 125 undef, tmps.getD 126 undef, tmps.getD 127 undef, tmps.getD 128 undef, tmps.getD 129 undef, tmps.getD 130 undef, tmps.getD 131 undef, tmps.getD 132 undef, tmps.getD 133 undef, tmps.getD 134 undef, tmps.getD 135 undef, tmps.getD 136 undef, tmps.getD 137 undef] := by
  have h1 : tmps.toList = (List.range 138).map (fun i => tmps.getD i undef) := by
    apply List.ext_getElem
    · simp [h]
    · intro i h2 h3
      simp at h2
      simp [h2]
  calc tmps = ⟨tmps.toList⟩ := rfl
    _ = ⟨(List.range 138).map (fun i => tmps.getD i undef)⟩ := by rw [h1]
    _ = _ := rfl
theorem FrSw.frame {a : Act} {s7 s10 s11 s12 s13 : Value} (h : FrSw a s7 s10 s11 s12 s13) : ∃ f : Nat → Value, (∀ i, a.tmps.getD i undef = f i) ∧ a = { tmps := #[f 0, f 1, f 2, f 3, f 4, f 5, f 6, s7, f 8, f 9, s10, s11, s12, s13, f 14, f 15, f 16, f 17, f 18, f 19, f 20, f 21, f 22, f 23, f 24, f 25, f 26, f 27, f 28, f 29, f 30, f 31, f 32, f 33, f 34, f 35, f 36, f 37, f 38, f 39, f 40, f 41, f 42, f 43, f 44, f 45, f 46, f 47, f 48, f 49, f 50, f 51, f 52, f 53, f 54, f 55, f 56, f 57, f 58, f 59, f 60, f 61, f 62, f 63, f 64, f 65, f 66, f 67, f 68, f 69, f 70, f 71, f 72, f 73, f 74, f 75, f 76, f 77, f 78, f 79, f 80, f 81, f 82, f 83, f 84, f 85, f 86, f 87, f 88, f 89, f 90, f 91, f 92, f 93, f 94, f 95, f 96, f 97, f 98, f 99, f 100, f 101, f 102, f 103, f 104, f 105, f 106, f 107, f 108, f 109, f 110, f 111, f 112, f 113, f 114, f 115, f 116, f 117, f 118, f 119, f 120, f 121, f 122, f 123, f 124, f 125, f 126, f 127, f 128, f 129, f 130, f 131, f 132, f 133, f 134, f 135, f 136, f 137], defers := [] } := by
  refine ⟨fun i => a.tmps.getD i undef, fun _ => rfl, ?_⟩
  obtain ⟨tmps, defers⟩ := a
  have h1 := FrSw_slots tmps h.size
  rw [h.e7, h.e10, h.e11, h.e12, h.e13] at h1
  have h2 := h.marks
  simp only at h2
  rw [h2]
  exact congrArg (fun t => Act.mk t []) h1

set_option maxRecDepth 4000 in
set_option maxHeartbeats 20000000 in
theorem pswap_any (v u : Value) (p q : List Oq) (w : World) (hP : OpsAt w v p) (hQ : OpsAt w u q) (hlp : p.length ≤ 4398046511104) (hlq : q.length ≤ 4398046511104) (hfp : Fit p) (hfq : Fit q) :
    Calls Try.prog 12 #[v, u] w fun e w' => SAns p q w e w' := by
  have HP := hidden hP
  have HQ := hidden hQ
  have HFP := hidden hfp
  have HFQ := hidden hfq
  obtain ⟨ao, cap, rfl⟩ := hP.shape
  obtain ⟨bo, cap2, rfl⟩ := hQ.shape
  clear hP hQ hfp hfq
  cases hrp : right p with
  | false =>
    have HT := hidden (show swp p q = ([], [], 1) by unfold swp; rw [if_neg (by simp [hrp])])
    have HRP := hidden hrp
    clear hrp
    go_enter Try.func12, Try.ntmps12
    go_wp2_with fail
    refine (pright_any _ p w HP.out hlp HFP.out).mono ?_
    rw [HRP.out]
    rintro e w2 ⟨rfl, hb⟩
    have HB2 := hidden hb
    clear hb
    go_wp2_with fail
    go_ret3
    exact sans_nil HT.out HB2.out
  | true =>
  have HRP := hidden hrp
  cases hrq : right q with
  | false =>
    have HT := hidden (show swp p q = ([], [], 1) by unfold swp; rw [if_neg (by simp [hrq])])
    have HRQ := hidden hrq
    clear hrp hrq
    go_enter Try.func12, Try.ntmps12
    go_wp2_with fail
    refine (pright_any _ p w HP.out hlp HFP.out).mono ?_
    rw [HRP.out]
    rintro e w2 ⟨rfl, hb⟩
    have HB2 := hidden hb
    have HQ2 := hidden (HQ.out.later hb)
    clear hb
    go_wp2_with fail
    refine (pright_any _ q w2 HQ2.out hlq HFQ.out).mono ?_
    rw [HRQ.out]
    rintro e w3 ⟨rfl, hb⟩
    have HB3 := hidden (HB2.out.trans (hb.mono HB2.out.size))
    clear hb
    go_wp2_with fail
    go_ret3
    exact sans_nil HT.out HB3.out
  | true =>
  have HRQ := hidden hrq
  have HOP := hidden (right_ok hrp)
  have HOQ := hidden (right_ok hrq)
  have HLL := hidden (show p.length + q.length ≤ 1099511627775 by have := right_len hrp; have := right_len hrq; omega)
  have HTO := hidden (fun r (h : wk (p.length + q.length + 1) false p q = some r) => byO_tot hrp hrq h)
  have HT := hidden (fun R (h : wk (p.length + q.length + 1) false p q = R) => swp_at hrp hrq h)
  clear hrp hrq
  go_enter Try.func12, Try.ntmps12
  go_wp2_with fail
  refine (pright_any _ p w HP.out hlp HFP.out).mono ?_
  rw [HRP.out]
  rintro e w2 ⟨rfl, hb⟩
  have HB2 := hidden hb
  have HP2 := hidden (HP.out.later hb)
  have HQ2 := hidden (HQ.out.later hb)
  clear hb
  go_wp2_with fail
  refine (pright_any _ q w2 HQ2.out hlq HFQ.out).mono ?_
  rw [HRQ.out]
  rintro e w3 ⟨rfl, hb⟩
  have HB3 := hidden (HB2.out.trans (hb.mono HB2.out.size))
  have HP3 := hidden (HP2.out.later hb)
  have HQ3 := hidden (HQ2.out.later hb)
  clear hb HB2 HP2 HQ2
  go_wp2_with fail
  refine (pwalk_any _ _ p q w3 HP3.out HQ3.out HLL.out HOP.out HOQ.out HFP.out HFQ.out).mono ?_
  obtain ⟨R, hR⟩ : ∃ R, wk (p.length + q.length + 1) false p q = R := ⟨_, rfl⟩
  rw [hR]
  rintro e w4 ⟨he, hb⟩
  have HB4 := hidden (HB3.out.trans (hb.mono HB3.out.size))
  clear hb HB3 HP3 HQ3
  cases R with
  | none =>
    have HTN := hidden (show swp p q = ([], [], 6) from HT.out _ hR)
    clear hR
    simp only at he
    subst he
    go_wp2_with fail
    go_ret3
    exact sans_nil HTN.out HB4.out
  | some r =>
  have HT2 := hidden (show swp p q = if right (nrm (byO r)) = true then
      if r.2 = true ∨ nbO 0 r.1 = true ∨ ¬ (right (nrm (fsO r.1)) = true ∧ right (nrm (snO r.1)) = true) then ([], [], 7)
      else (nrm (fsO r.1), nrm (snO r.1), 0)
    else ([], [], 6) from HT.out _ hR)
  have HWF := hidden (wk_wf _ _ _ _ _ HOP.out HOQ.out hR)
  have HAL := hidden (byO_al HOP.out HOQ.out hR)
  have HFW := hidden (wk_fit _ _ _ _ _ HFP.out HFQ.out hR)
  have HFB := hidden (byO_fit HFP.out HFQ.out hR)
  have HLB := hidden (show r.1.length ≤ 1099511627776 by have := wk_len _ _ _ _ _ HOP.out HOQ.out hR; have := HLL.out; omega)
  have HTT := hidden (show tot 3 (byO r) ≤ 549755813888 by have := HTO.out r hR; omega)
  have HLN := hidden (show (nrm (byO r)).length ≤ 4398046511104 by
    have h1 := nfo_len (byO r)
    have h2 := HLB.out
    unfold nrm; rw [List.length_append]
    have h3 : (byO r).length = r.1.length := List.length_map _
    omega)
  clear hR
  obtain ⟨vo, rfl, hba⟩ := he
  have HBA := hidden hba
  obtain ⟨va, vn, vc, rfl⟩ : ∃ a n c, vo = .slice a n c := by obtain ⟨a, c, e⟩ := hba.shape; exact ⟨_, _, _, e⟩
  clear hba
  obtain ⟨L, rm⟩ := r
  simp only at HT2 HWF HFW HLB HBA ⊢
  go_wp2_with fail
  refine (pops_any _ L w4 HBA.out HLB.out).mono ?_
  rintro e w5 ⟨v5, rfl, ho5, hb⟩
  have HB5 := hidden (HB4.out.trans (hb.mono HB4.out.size))
  have HBA5 := hidden (HBA.out.later hb)
  have HO5 := hidden (show OpsAt w5 v5 (byO (L, rm)) from ho5)
  obtain ⟨a5, n5, c5, rfl⟩ : ∃ a n c, v5 = .slice a n c := by obtain ⟨a, c, e⟩ := ho5.shape; exact ⟨_, _, _, e⟩
  clear hb ho5
  go_wp2_with fail
  refine (pnorm_any _ (byO (L, rm)) w5 HO5.out (by have := HLB.out; have h3 : (byO (L, rm)).length = L.length := List.length_map _; omega) HAL.out HTT.out).mono ?_
  rintro e w6 ⟨v6, rfl, ho6, hb⟩
  have HB6 := hidden (HB5.out.trans (hb.mono HB5.out.size))
  have HBA6 := hidden (HBA5.out.later hb)
  have HO6 := hidden ho6
  obtain ⟨a6, n6, c6, rfl⟩ : ∃ a n c, v6 = .slice a n c := by obtain ⟨a, c, e⟩ := ho6.shape; exact ⟨_, _, _, e⟩
  clear hb ho6
  go_wp2_with fail
  refine (pright_any _ (nrm (byO (L, rm))) w6 HO6.out HLN.out (nrm_fit HFB.out)).mono ?_
  obtain ⟨b, hb0⟩ : ∃ b, right (nrm (byO (L, rm))) = b := ⟨_, rfl⟩
  have HRB := hidden hb0
  rw [hb0]
  rw [hb0] at HT2
  clear hb0
  rintro e w7 ⟨rfl, hb⟩
  have HB7 := hidden (HB6.out.trans (hb.mono HB6.out.size))
  have HBA7 := hidden (HBA6.out.later hb)
  clear hb HBA HBA5 HBA6
  cases b with
  | false =>
    have HTN := hidden (show swp p q = ([], [], 6) from HT2.out)
    go_wp2_with fail
    go_ret3
    exact sans_nil HTN.out HB7.out
  | true =>
  have HT3 := hidden (show swp p q = if rm = true ∨ nbO 0 L = true ∨ ¬ (right (nrm (fsO L)) = true ∧ right (nrm (snO L)) = true) then ([], [], 7) else (nrm (fsO L), nrm (snO L), 0) from HT2.out)
  clear HT2
  cases rm with
  | true =>
    have HTN := hidden (show swp p q = ([], [], 7) by rw [HT3.out, if_pos (Or.inl rfl)])
    go_wp2_with fail
    go_ret3
    exact sans_nil HTN.out HB7.out
  | false =>
  have HTT2 := hidden (fsO_tot HWF.out HRB.out)
  obtain ⟨za, zc, hz, hc⟩ := HBA7.out.open_
  cases hz
  have HC := hidden hc
  clear hc
  have HSZ := hidden HB7.out.size
  have HS := hidden (show K2 w7 (fsO (L.take 0)) (snO (L.take 0)) (.slice none 0 0) (.slice none 0 0) w7 ∧ nbO 0 L = nbO (prv (L.take 0)) (L.drop 0) from ⟨⟨Below.refl _ _, ⟨rfl, Or.inl ⟨rfl, rfl⟩⟩, ⟨rfl, Or.inl ⟨rfl, rfl⟩⟩, (fun _ e => by cases e)⟩, rfl⟩)
  clear HO5 HO6 HB4 HB5 HB6
  go_wp2_with fail
  refine wp_loop_ghost_k (fun g a' wr => ∃ (k : Nat) (qa qb s13 : Value), k ≤ L.length ∧ FrSw a' (.slice va L.length vc) qa qb (.int .i64 k) s13 ∧ Hid (g = L.length - k ∧ K2 w7 (fsO (L.take k)) (snO (L.take k)) qa qb wr ∧ nbO 0 L = nbO (prv (L.take k)) (L.drop k))) L.length ?start ?round
  case start => exact ⟨0, _, _, _, Nat.zero_le _, ⟨rfl, rfl, rfl, rfl, rfl, rfl, rfl⟩, ⟨by simp, HS.out⟩⟩
  case round =>
  intro gk _ wr hinv
  obtain ⟨k, qa, qb, q13, hk, hfr, hgs⟩ := hinv
  obtain ⟨ff, hff, ha⟩ := hfr.frame
  clear hff hfr HS
  subst ha
  try dsimp only
  intro _ _ _ _
  have HG := hidden hgs.out.1
  have HK := hidden hgs.out.2.1
  have HN := hidden hgs.out.2.2
  clear hgs
  have hws := HK.out.bel.size
  obtain ⟨qa1, qa2, qa3, hqa⟩ : ∃ a n c, qa = .slice a n c := by obtain ⟨a, c, e⟩ := (OpsAt.of_owns HK.out.oa).shape; exact ⟨_, _, _, e⟩
  obtain ⟨qb1, qb2, qb3, hqb⟩ : ∃ a n c, qb = .slice a n c := by obtain ⟨a, c, e⟩ := (OpsAt.of_owns HK.out.ob).shape; exact ⟨_, _, _, e⟩
  subst hqa hqb
  by_cases hke : k = L.length
  · subst hke
    have HNN := hidden (show nbO 0 L = false by rw [HN.out, List.drop_length]; rfl)
    have HK2 := hidden (show K2 w7 (fsO L) (snO L) (.slice qa1 qa2 qa3) (.slice qb1 qb2 qb3) wr by have := HK.out; rw [List.take_length] at this; exact this)
    have HBW := hidden (HB7.out.trans (HK.out.bel.mono HB7.out.size))
    have HA1 := hidden (fsO_al L HWF.out)
    have HA2 := hidden (snO_al L HWF.out)
    have HL1 := hidden (show (nrm (fsO L)).length ≤ 4398046511104 by
      have h1 := nfo_len (fsO L)
      have h2 := fsO_len L
      have h3 := HLB.out
      unfold nrm; rw [List.length_append]; omega)
    have HL2 := hidden (show (nrm (snO L)).length ≤ 4398046511104 by
      have h1 := nfo_len (snO L)
      have h2 := snO_len L
      have h3 := HLB.out
      unfold nrm; rw [List.length_append]; omega)
    have HF1 := hidden (nrm_fit (xs := fsO L) (fsO_of L (fun t => t.length ≤ 140737488355328) HFW.out))
    have HF2 := hidden (nrm_fit (xs := snO L) (snO_of L (fun t => t.length ≤ 140737488355328) HFW.out))
    clear HK HN HC
    go_wp2_with fail
    refine (pnorm_any _ (fsO L) wr (OpsAt.of_owns HK2.out.oa) (by have := fsO_len L; have := HLB.out; omega) HA1.out HTT2.out.1).mono ?_
    rintro e x5 ⟨v5, rfl, ho5, hb⟩
    have HC5 := hidden (HBW.out.trans (hb.mono HBW.out.size))
    have HO5 := hidden ho5
    have HS5 := hidden ((OpsAt.of_owns HK2.out.ob).later hb)
    obtain ⟨a5, n5, c5, rfl⟩ : ∃ a n c, v5 = .slice a n c := by obtain ⟨a, c, e⟩ := ho5.shape; exact ⟨_, _, _, e⟩
    clear hb ho5 HK2
    go_wp2_with fail
    refine (pnorm_any _ (snO L) x5 HS5.out (by have := snO_len L; have := HLB.out; omega) HA2.out HTT2.out.2).mono ?_
    rintro e x6 ⟨v6, rfl, ho6, hb⟩
    have HC6 := hidden (HC5.out.trans (hb.mono HC5.out.size))
    have HO6 := hidden (HO5.out.later hb)
    have HS6 := hidden ho6
    obtain ⟨a6, n6, c6, rfl⟩ : ∃ a n c, v6 = .slice a n c := by obtain ⟨a, c, e⟩ := ho6.shape; exact ⟨_, _, _, e⟩
    clear hb ho6
    go_wp2_with fail
    refine (pright_any _ (nrm (fsO L)) x6 HO6.out HL1.out HF1.out).mono ?_
    obtain ⟨b1, hb1⟩ : ∃ b, right (nrm (fsO L)) = b := ⟨_, rfl⟩
    have HR1 := hidden hb1
    rw [hb1]
    clear hb1
    rintro e x7 ⟨rfl, hb⟩
    have HC7 := hidden (HC6.out.trans (hb.mono HC6.out.size))
    have HO7 := hidden (HO6.out.later hb)
    have HS7 := hidden (HS6.out.later hb)
    clear hb
    cases b1 with
    | false =>
      have HTN := hidden (show swp p q = ([], [], 7) by rw [HT3.out, if_pos (Or.inr (Or.inr (by rw [HR1.out]; simp)))])
      go_wp2_with fail
      go_ret3
      exact sans_nil HTN.out HC7.out
    | true =>
    go_wp2_with fail
    refine (pright_any _ (nrm (snO L)) x7 HS7.out HL2.out HF2.out).mono ?_
    obtain ⟨b2, hb2⟩ : ∃ b, right (nrm (snO L)) = b := ⟨_, rfl⟩
    have HR2 := hidden hb2
    rw [hb2]
    clear hb2
    rintro e x8 ⟨rfl, hb⟩
    have HC8 := hidden (HC7.out.trans (hb.mono HC7.out.size))
    have HO8 := hidden (HO7.out.later hb)
    have HS8 := hidden (HS7.out.later hb)
    clear hb
    cases b2 with
    | false =>
      have HTN := hidden (show swp p q = ([], [], 7) by rw [HT3.out, if_pos (Or.inr (Or.inr (by rw [HR2.out]; simp)))])
      go_wp2_with fail
      go_ret3
      exact sans_nil HTN.out HC8.out
    | true =>
      have HTN := hidden (show swp p q = (nrm (fsO L), nrm (snO L), 0) by rw [HT3.out, if_neg (by rw [HNN.out, HR1.out, HR2.out]; simp)])
      go_wp2_with fail
      go_ret3
      exact sans_two HTN.out HO8.out HS8.out HC8.out
  have hlt : k < L.length := by omega
  clear hke
  obtain ⟨x, hx⟩ : ∃ x, L[k]? = some x := ⟨L[k], List.getElem?_eq_getElem hlt⟩
  have HX := hidden hx
  obtain ⟨b, o, hao, hcap, hb, c1, c2, c3, c4⟩ := HC.out k x hx
  subst hao
  have HWX := hidden (HWF.out x (List.mem_of_getElem? hx))
  obtain ⟨⟨x1, x2, x3⟩, x4⟩ := x
  have d1 := (HK.out.bel.cell (p := ⟨b, o + k * 4, none⟩) hb).trans c1
  have d2 := (HK.out.bel.cell (p := ⟨b, o + k * 4 + 1, none⟩) hb).trans c2
  have d3 := (HK.out.bel.cell (p := ⟨b, o + k * 4 + 2, none⟩) hb).trans c3
  have d4 := (HK.out.bel.cell (p := ⟨b, o + k * 4 + 3, none⟩) hb).trans c4
  simp only at d1 d2 d3 d4
  clear hx c1 c2 c3 c4
  have hbr := Nat.lt_of_lt_of_le hb hws
  obtain ⟨cv, hcv⟩ : ∃ cv, (decide (0 < x4) && decide (0 < prv (L.take k)) && !(x4 == prv (L.take k))) = cv := ⟨_, rfl⟩
  have HCV := hidden hcv
  clear hcv
  go_upto_region 13 with fail
  refine wp_cut (fun a' wx => FrSw a' (.slice (some ⟨b, o, none⟩) L.length vc) (.slice qa1 qa2 qa3) (.slice qb1 qb2 qb3) (.int .i64 k) (.pointer (some ⟨wr.heap.size, 0, none⟩)) ∧ a'.tmps.getD 76 undef = .bool cv ∧ Hid (S2 w7 (fsO (L.take k)) (snO (L.take k)) (.slice qa1 qa2 qa3) (.slice qb1 qb2 qb3) wr.heap.size x1 x2 x3 x4 wx)) ?rest ?first
  case first =>
    have HS2 := hidden (S2.begin HK.out x1 x2 x3 x4)
    intro _ _ _ _
    cases k with
    | zero =>
      obtain rfl : cv = false := by rw [← HCV.out]; simp [prv]
      go_wp2_with (go_quiet (fail))
      refine Met.intro ?_
      go_step
      exact ⟨⟨rfl, rfl, rfl, rfl, rfl, rfl, rfl⟩, rfl, HS2.out.later (below_drewN (Below.refl _ _) nq)⟩
    | succ j =>
      obtain ⟨y, hy⟩ : ∃ y, L[j]? = some y := ⟨L[j], List.getElem?_eq_getElem (by omega)⟩
      obtain ⟨b', o', hao', _, _, _, _, _, e4⟩ := HC.out j y hy
      cases hao'
      have e5 := (HK.out.bel.cell (p := ⟨b, o + j * 4 + 3, none⟩) hb).trans e4
      have hpy : prv (L.take (j + 1)) = y.2 := by rw [takeB hy, prv_snoc]
      have hyw := (HWF.out y (List.mem_of_getElem? hy)).2
      have hxw := HWX.out.2
      rw [hpy] at HCV
      obtain ⟨⟨y1, y2, y3⟩, y4⟩ := y
      simp only at e5 HCV hyw hxw
      have hj0 : (0 : Int) < (j : Int) + 1 := by omega
      have hj : ((j : Int) + 1 - 1) = j := by omega
      have hj1 : j < L.length := by omega
      have hlb := HLB.out
      clear e4 hpy hy
      have HX4 := hidden (show x4 = 0 ∨ x4 = 1 ∨ x4 = 2 by omega)
      have HY4 := hidden (show y4 = 0 ∨ y4 = 1 ∨ y4 = 2 by omega)
      clear hxw hyw
      rcases HX4.out with rfl | rfl | rfl
      · obtain rfl : cv = false := by rw [← HCV.out]; rfl
        go_wp2_with (go_quiet (fail))
        refine Met.intro ?_
        go_step
        exact ⟨⟨rfl, rfl, rfl, rfl, rfl, rfl, rfl⟩, rfl, HS2.out.later (below_drewN (Below.refl _ _) nq)⟩
      all_goals
        rcases HY4.out with rfl | rfl | rfl
        all_goals
          have hcv := HCV.out
          simp at hcv
          subst hcv
          go_wp2_with (go_quiet (fail))
          refine Met.intro ?_
          go_step
          exact ⟨⟨rfl, rfl, rfl, rfl, rfl, rfl, rfl⟩, rfl, HS2.out.later (below_drewN (Below.refl _ _) nq)⟩
  case rest =>
  intro _ wc hinv
  obtain ⟨hfr, hv, hst⟩ := hinv
  have HST := hidden hst.out
  obtain ⟨ff, hff, ha⟩ := hfr.frame
  rw [hff 76] at hv
  clear hff hfr hst d1 d2 d3 d4
  subst ha
  try dsimp only
  rw [hv]
  clear hv
  have hlb := HLB.out
  cases cv with
  | true =>
    have HTN := hidden (show swp p q = ([], [], 7) by
      have h := nbO_at HX.out (prv (L.take k))
      simp only at h
      rw [HCV.out, Bool.true_or] at h
      rw [HT3.out, if_pos (Or.inr (Or.inl (HN.out.trans h)))])
    have HBW := hidden (HB7.out.trans (HST.out.k.bel.mono HB7.out.size))
    go_wp2_with fail
    go_ret3
    exact sans_nil HTN.out HBW.out
  | false =>
  have HNX := hidden (show nbO 0 L = nbO (prv (L.take (k + 1))) (L.drop (k + 1)) by
    have h := nbO_at HX.out (prv (L.take k))
    simp only at h
    rw [HCV.out, Bool.false_or] at h
    rw [takeB HX.out, prv_snoc]
    exact HN.out.trans h)
  have HFX := hidden (show fsO (L.take (k + 1)) = fsO (L.take k) ++ fsO [((x1, x2, x3), x4)] by rw [takeB HX.out, fsO_app])
  have HSX := hidden (show snO (L.take (k + 1)) = snO (L.take k) ++ snO [((x1, x2, x3), x4)] by rw [takeB HX.out, snO_app])
  have hla : (fsO (L.take k)).length ≤ 1099511627776 := by have h1 := fsO_len (L.take k); rw [List.length_take] at h1; omega
  have hlc : (snO (L.take k)).length ≤ 1099511627776 := by have h1 := snO_len (L.take k); rw [List.length_take] at h1; omega
  have hwf := HWX.out.2
  simp only at hwf
  obtain ⟨T, hT⟩ : ∃ T, wr.heap.size = T := ⟨_, rfl⟩
  rw [hT] at HST ⊢
  clear hT HWX HX HN HCV HK hbr hws
  obtain ⟨A, hA⟩ : ∃ A, fsO (L.take k) = A := ⟨_, rfl⟩
  obtain ⟨B, hB⟩ : ∃ B, snO (L.take k) = B := ⟨_, rfl⟩
  rw [hA] at HST HFX hla
  rw [hB] at HST HSX hlc
  clear hA hB
  have hcs := HST.out.k.bel.size
  obtain ⟨t1, t2, t3, t4⟩ := HST.out.c.cells
  have htl := HST.out.c.lt
  have HR := hidden (R2.begin HST.out)
  rcases hwf with ⟨rfl, hx1⟩ | ⟨rfl | rfl, rfl | rfl⟩
  · clear hx1
    rw [show fsO [((x1, x2, x3), 0)] = [(x1, x2, x3)] by simp [fsO]] at HFX
    rw [show snO [((x1, x2, x3), 0)] = [(x1, x2, x3)] by simp [snO]] at HSX
    go_upto_region 22 with (at_builtin; go_must (refine wpList_append_ops _ (by go_simp) (.tmp 97) (.tmp 100) rfl w7.heap.size _ (.slice (some ⟨wc.heap.size + 1, 0, none⟩) 1 1) A [(x1, x2, x3)] rfl rfl (HR.out.k.oa.alloc _) (ops_oneAt _ _ _ _ _ (by simp)) (by simp only [List.length_cons, List.length_nil]; omega) (by simp; omega) ?_; intro v9 w9 hown9 hadd9; have HQ9 := hidden (R2.first (HR.out.alloc (opO x1 x2 x3)) hadd9 hown9); clear hown9 hadd9))
    obtain ⟨f1, f2, f3, f4⟩ := HQ9.out.c.cells
    obtain ⟨g1, g2, g3⟩ := HQ9.out.d.cells
    have hn9 := HQ9.out.k.bel.size
    have hl9 := HQ9.out.c.lt
    have hm9 := HQ9.out.d.lt
    clear t1 t2 t3 t4
    go_wp2_with (at_builtin; go_must (refine wpList_append_ops _ (by go_simp) (.tmp 102) (.tmp 105) rfl w7.heap.size _ (.slice (some ⟨w9.heap.size, 0, none⟩) 1 1) B [(x1, x2, x3)] rfl rfl (HQ9.out.k.ob.alloc _) (ops_oneAt _ _ _ _ _ (by simp)) (by simp only [List.length_cons, List.length_nil]; omega) (by simp; omega) ?_; intro v10 w10 hown10 hadd10; have HQ10 := hidden (R2.second (HQ9.out.alloc (opO x1 x2 x3)) hadd10 hown10); clear hown10 hadd10))
    have HKN := hidden (show K2 w7 (fsO (L.take (k + 1))) (snO (L.take (k + 1))) _ _ _ by rw [HFX.out, HSX.out]; exact HQ10.out.k)
    refine Handed.intro (L.length - (k + 1)) (by have := HG.out; omega) ?_
    go_step
    exact ⟨k + 1, _, _, _, by omega, ⟨rfl, rfl, rfl, rfl, by show Value.int .i64 _ = _; first | rfl | (congr 1; omega), rfl, rfl⟩, ⟨rfl, HKN.out, HNX.out⟩⟩
  · rw [show fsO [(((3 : Int), x2, x3), (1 : Int))] = [(2, x2, x3)] by simp [fsO]] at HFX
    rw [show snO [(((3 : Int), x2, x3), (1 : Int))] = [(3, x2, x3)] by simp [snO]] at HSX
    go_upto_region 18 with (at_builtin; go_must (refine wpList_append_ops _ (by go_simp) (.tmp 80) (.tmp 83) rfl w7.heap.size _ (.slice (some ⟨wc.heap.size + 1, 0, none⟩) 1 1) B [(3, x2, x3)] rfl rfl (HR.out.k.ob.alloc _) (ops_oneAt _ _ _ _ _ (by simp)) (by simp only [List.length_cons, List.length_nil]; omega) (by simp; omega) ?_; intro v9 w9 hown9 hadd9; have HQ9 := hidden (R2.second (HR.out.alloc (opO 3 x2 x3)) hadd9 hown9); clear hown9 hadd9))
    obtain ⟨f1, f2, f3, f4⟩ := HQ9.out.c.cells
    obtain ⟨g1, g2, g3⟩ := HQ9.out.d.cells
    have hn9 := HQ9.out.k.bel.size
    have hl9 := HQ9.out.c.lt
    have hm9 := HQ9.out.d.lt
    clear t1 t2 t3 t4
    go_wp2_with (at_builtin; go_must (refine wpList_append_ops _ (by go_simp) (.tmp 89) (.tmp 91) rfl w7.heap.size _ (.slice (some ⟨w9.heap.size, 0, none⟩) 1 1) A [(2, x2, x3)] rfl rfl (HQ9.out.k.oa.alloc _) (ops_oneAt _ _ _ _ _ (by simp)) (by simp only [List.length_cons, List.length_nil]; omega) (by simp; omega) ?_; intro v10 w10 hown10 hadd10; have HQ10 := hidden (R2.first (HQ9.out.alloc (opO 2 x2 x3)) hadd10 hown10); clear hown10 hadd10))
    have HKN := hidden (show K2 w7 (fsO (L.take (k + 1))) (snO (L.take (k + 1))) _ _ _ by rw [HFX.out, HSX.out]; exact HQ10.out.k)
    refine Handed.intro (L.length - (k + 1)) (by have := HG.out; omega) ?_
    go_step
    exact ⟨k + 1, _, _, _, by omega, ⟨rfl, rfl, rfl, rfl, by show Value.int .i64 _ = _; first | rfl | (congr 1; omega), rfl, rfl⟩, ⟨rfl, HKN.out, HNX.out⟩⟩
  · rw [show fsO [(((4 : Int), x2, x3), (1 : Int))] = [] by simp [fsO], List.append_nil] at HFX
    rw [show snO [(((4 : Int), x2, x3), (1 : Int))] = [(4, x2, x3)] by simp [snO]] at HSX
    go_upto_region 18 with (at_builtin; go_must (refine wpList_append_ops _ (by go_simp) (.tmp 80) (.tmp 83) rfl w7.heap.size _ (.slice (some ⟨wc.heap.size + 1, 0, none⟩) 1 1) B [(4, x2, x3)] rfl rfl (HR.out.k.ob.alloc _) (ops_oneAt _ _ _ _ _ (by simp)) (by simp only [List.length_cons, List.length_nil]; omega) (by simp; omega) ?_; intro v9 w9 hown9 hadd9; have HQ9 := hidden (R2.second (HR.out.alloc (opO 4 x2 x3)) hadd9 hown9); clear hown9 hadd9))
    obtain ⟨f1, f2, f3, f4⟩ := HQ9.out.c.cells
    obtain ⟨g1, g2, g3⟩ := HQ9.out.d.cells
    have hn9 := HQ9.out.k.bel.size
    have hl9 := HQ9.out.c.lt
    have hm9 := HQ9.out.d.lt
    clear t1 t2 t3 t4
    go_wp2_with fail
    have HKN := hidden (show K2 w7 (fsO (L.take (k + 1))) (snO (L.take (k + 1))) _ _ _ by rw [HFX.out, HSX.out]; exact HQ9.out.k)
    refine Handed.intro (L.length - (k + 1)) (by have := HG.out; omega) ?_
    go_step
    exact ⟨k + 1, _, _, _, by omega, ⟨rfl, rfl, rfl, rfl, by show Value.int .i64 _ = _; first | rfl | (congr 1; omega), rfl, rfl⟩, ⟨rfl, HKN.out, HNX.out⟩⟩
  · rw [show fsO [(((3 : Int), x2, x3), (2 : Int))] = [(3, x2, x3)] by simp [fsO]] at HFX
    rw [show snO [(((3 : Int), x2, x3), (2 : Int))] = [] by simp [snO], List.append_nil] at HSX
    go_upto_region 25 with (at_builtin; go_must (refine wpList_append_ops _ (by go_simp) (.tmp 111) (.tmp 114) rfl w7.heap.size _ (.slice (some ⟨wc.heap.size + 1, 0, none⟩) 1 1) A [(3, x2, x3)] rfl rfl (HR.out.k.oa.alloc _) (ops_oneAt _ _ _ _ _ (by simp)) (by simp only [List.length_cons, List.length_nil]; omega) (by simp; omega) ?_; intro v9 w9 hown9 hadd9; have HQ9 := hidden (R2.first (HR.out.alloc (opO 3 x2 x3)) hadd9 hown9); clear hown9 hadd9))
    obtain ⟨f1, f2, f3, f4⟩ := HQ9.out.c.cells
    obtain ⟨g1, g2, g3⟩ := HQ9.out.d.cells
    have hn9 := HQ9.out.k.bel.size
    have hl9 := HQ9.out.c.lt
    have hm9 := HQ9.out.d.lt
    clear t1 t2 t3 t4
    go_wp2_with fail
    have HKN := hidden (show K2 w7 (fsO (L.take (k + 1))) (snO (L.take (k + 1))) _ _ _ by rw [HFX.out, HSX.out]; exact HQ9.out.k)
    refine Handed.intro (L.length - (k + 1)) (by have := HG.out; omega) ?_
    go_step
    exact ⟨k + 1, _, _, _, by omega, ⟨rfl, rfl, rfl, rfl, by show Value.int .i64 _ = _; first | rfl | (congr 1; omega), rfl, rfl⟩, ⟨rfl, HKN.out, HNX.out⟩⟩
  · rw [show fsO [(((4 : Int), x2, x3), (2 : Int))] = [(4, x2, x3)] by simp [fsO]] at HFX
    rw [show snO [(((4 : Int), x2, x3), (2 : Int))] = [(2, x2, x3)] by simp [snO]] at HSX
    go_upto_region 25 with (at_builtin; go_must (refine wpList_append_ops _ (by go_simp) (.tmp 111) (.tmp 114) rfl w7.heap.size _ (.slice (some ⟨wc.heap.size + 1, 0, none⟩) 1 1) A [(4, x2, x3)] rfl rfl (HR.out.k.oa.alloc _) (ops_oneAt _ _ _ _ _ (by simp)) (by simp only [List.length_cons, List.length_nil]; omega) (by simp; omega) ?_; intro v9 w9 hown9 hadd9; have HQ9 := hidden (R2.first (HR.out.alloc (opO 4 x2 x3)) hadd9 hown9); clear hown9 hadd9))
    obtain ⟨f1, f2, f3, f4⟩ := HQ9.out.c.cells
    obtain ⟨g1, g2, g3⟩ := HQ9.out.d.cells
    have hn9 := HQ9.out.k.bel.size
    have hl9 := HQ9.out.c.lt
    have hm9 := HQ9.out.d.lt
    clear t1 t2 t3 t4
    go_wp2_with (at_builtin; go_must (refine wpList_append_ops _ (by go_simp) (.tmp 120) (.tmp 122) rfl w7.heap.size _ (.slice (some ⟨w9.heap.size, 0, none⟩) 1 1) B [(2, x2, x3)] rfl rfl (HQ9.out.k.ob.alloc _) (ops_oneAt _ _ _ _ _ (by simp)) (by simp only [List.length_cons, List.length_nil]; omega) (by simp; omega) ?_; intro v10 w10 hown10 hadd10; have HQ10 := hidden (R2.second (HQ9.out.alloc (opO 2 x2 x3)) hadd10 hown10); clear hown10 hadd10))
    have HKN := hidden (show K2 w7 (fsO (L.take (k + 1))) (snO (L.take (k + 1))) _ _ _ by rw [HFX.out, HSX.out]; exact HQ10.out.k)
    refine Handed.intro (L.length - (k + 1)) (by have := HG.out; omega) ?_
    go_step
    exact ⟨k + 1, _, _, _, by omega, ⟨rfl, rfl, rfl, rfl, by show Value.int .i64 _ = _; first | rfl | (congr 1; omega), rfl, rfl⟩, ⟨rfl, HKN.out, HNX.out⟩⟩

end Go.Proofs.Ytcjjboomljbmbaa
