
/-
  What a side's iterator tells, whatever is done with each step; what count and rightSide answer; conditions: the lists' and texts' lengths.
-/
import Derived.Test.YtdjdiaadflggfaaORange
namespace Go.Proofs.Ytdjdiaadflggfaa
open Go.RowKit Go.Proofs.Ytdjdiaadflggfaa.Ln Go.Proofs.Ytdjdiaadflggfaa.Ol

/-- a step as a value -/
def opV (x : Oq) : Value := .agg #[.int .i64 x.1, .int .i64 x.2.1, .string ⟨x.2.2.toArray⟩]
/-- a side's steps -/
def sd (own : Int) (xs : List Oq) : List Oq := xs.filter (on own)
theorem sd_snoc_on {own : Int} {xs : List Oq} {k : Nat} {x : Oq} (h : xs[k]? = some x) (ho : on own x = true) : sd own (xs.take (k + 1)) = sd own (xs.take k) ++ [x] := by
  rw [take_snoc h]; simp [sd, List.filter_append, ho]
theorem sd_snoc_off {own : Int} {xs : List Oq} {k : Nat} {x : Oq} (h : xs[k]? = some x) (ho : on own x = false) : sd own (xs.take (k + 1)) = sd own (xs.take k) := by
  rw [take_snoc h]; simp [sd, List.filter_append, ho]
theorem sd_at {own : Int} {xs : List Oq} {k : Nat} {x : Oq} (h : xs[k]? = some x) (ho : on own x = true) : (sd own xs)[(sd own (xs.take k)).length]? = some x := by
  have e := cut_at h
  have : sd own xs = sd own (xs.take k) ++ (x :: sd own (xs.drop (k + 1))) := by
    conv => lhs; rw [e]
    simp [sd, List.filter_append, ho]
  rw [this, List.getElem?_append_right (Nat.le_refl _), Nat.sub_self]; rfl

theorem tot_sd (own : Int) (xs : List Oq) : tot own (sd own xs) = tot own xs := by
  induction xs with
  | nil => rfl
  | cons x l ih =>
    unfold sd at ih ⊢
    rw [List.filter_cons]
    by_cases h : on own x = true
    · rw [if_pos h]; simp only [tot, ih]
    · rw [if_neg h]
      have : ln own x = 0 := by
        simp only [on, Bool.or_eq_true, beq_iff_eq, not_or] at h
        unfold ln
        rw [if_neg h.1.1, if_neg (by intro e; rcases e with e | e; (· exact h.1.2 e); exact h.2 e)]
      simp only [tot, this, ih]; omega
theorem rsl_sd (own : Int) (xs : List Oq) : ∀ s, (sd own xs).foldl (rs own) s = xs.foldl (rs own) s := by
  induction xs with
  | nil => intro s; rfl
  | cons x l ih =>
    intro s
    unfold sd at ih ⊢
    rw [List.filter_cons]
    by_cases h : on own x = true
    · rw [if_pos h]; simp only [List.foldl_cons, ih]
    · rw [if_neg h, List.foldl_cons, ih]
      have h2 : on own x = false := by simpa using h
      simp only [rs, h2]; rfl
theorem sd_on {own : Int} {xs : List Oq} {k : Nat} {x : Oq} (h : (sd own xs)[k]? = some x) : on own x = true := (List.mem_filter.1 (List.mem_of_getElem? h)).2
theorem rs_none (own : Int) (l : List Oq) : l.foldl (rs own) none = none := by
  induction l with
  | nil => rfl
  | cons x l ih =>
    rw [List.foldl_cons]
    have : rs own none x = none := by unfold rs; split <;> simp
    rw [this]; exact ih
/-- an end ahead of the end breaks a side -/
theorem rsl_broken {own : Int} {xs : List Oq} {k : Nat} {x : Oq} (h : (sd own xs)[k]? = some x) (he : ((sd own xs).take k).foldl (rs own) (some false) = some true) : rsl own xs = none := by
  have e := cut_at h
  unfold rsl
  rw [← rsl_sd]
  rw [e, List.foldl_append, he, List.foldl_cons]
  have : rs own (some true) x = none := by simp [rs, sd_on h]
  rw [this, rs_none]

/-- what count keeps -/
structure CI (w : World) (own : Int) (v : Value) (xs : List Oq) (k : Nat) (W : World) : Prop where
  bel : Below w.heap.size w W
  sum : Boxed W w.heap.size 3 (.int .i64 (cnt own ((sd own xs).take k)))
  k1 : Boxed W (w.heap.size + 1) 27 v
  k2 : Boxed W (w.heap.size + 1 + 1) 3 (.int .i64 own)
theorem CI.later {w : World} {own : Int} {v : Value} {xs : List Oq} {k : Nat} {W W' : World} (h : CI w own v xs k W) (hb : Below W.heap.size W W') : CI w own v xs k W' :=
  ⟨h.bel.trans (hb.mono h.bel.size), box_later h.sum hb, box_later h.k1 hb, box_later h.k2 hb⟩
theorem CI.putObj {w : World} {own : Int} {v : Value} {xs : List Oq} {k : Nat} {W : World} (h : CI w own v xs k W) {l : Nat} (o' : Obj) (hl : w.heap.size + 1 + 1 + 1 ≤ l) : CI w own v xs k (W.putObj l o') :=
  ⟨bel_put h.bel _ (by omega), box_keep h.sum (World.putObj_heap_other (by omega)), box_keep h.k1 (World.putObj_heap_other (by omega)), box_keep h.k2 (World.putObj_heap_other (by omega))⟩
theorem heap_setCell_ne (W : World) (b i k : Nat) (u : Value) (h : k ≠ b) : (W.setCell ⟨b, i, none⟩ u).heap[k]? = W.heap[k]? := by
  exact Below.heap_setCell W ⟨b, i, none⟩ u k h
theorem CI.step {w : World} {own : Int} {v : Value} {xs : List Oq} {k : Nat} {W : World} (h : CI w own v xs k W) (x : Oq) (hx : (sd own xs)[k]? = some x) (z : Int) (hz : z = min (cnt own ((sd own xs).take k) + min (ln own x) 1099511627776) 1099511627776) :
    CI w own v xs (k + 1) (W.setCell ⟨w.heap.size, 0, none⟩ (.int .i64 z)) := by
  have h2 := h
  refine ⟨bel_set h2.bel (Nat.le_refl _), ?_, box_keep h2.k1 (heap_setCell_ne _ _ _ _ _ (by omega)), box_keep h2.k2 (heap_setCell_ne _ _ _ _ _ (by omega))⟩
  rw [take_snoc hx, cnt_snoc, ← hz]
  exact Boxed.set _ h2.sum
/-- a step's own variable, in a round's world -/
theorem op_new (W : World) (x1 x2 : Int) (x3 : Tx) (l : Nat) (o' : Obj) (hl : l < W.heap.size) :
    ((W.alloc (.cells #[.int .i64 x1, .int .i64 x2, .string ⟨x3.toArray⟩] 31)).putObj l o').cell? ⟨W.heap.size, 0, none⟩ = some (.int .i64 x1) ∧ ((W.alloc (.cells #[.int .i64 x1, .int .i64 x2, .string ⟨x3.toArray⟩] 31)).putObj l o').cell? ⟨W.heap.size, 1, none⟩ = some (.int .i64 x2) ∧ ((W.alloc (.cells #[.int .i64 x1, .int .i64 x2, .string ⟨x3.toArray⟩] 31)).putObj l o').cell? ⟨W.heap.size, 2, none⟩ = some (.string ⟨x3.toArray⟩) := by
  have h : ((W.alloc (.cells #[.int .i64 x1, .int .i64 x2, .string ⟨x3.toArray⟩] 31)).putObj l o').heap[W.heap.size]? = some (.cells #[.int .i64 x1, .int .i64 x2, .string ⟨x3.toArray⟩] 31 (0, 0)) := by
    rw [World.putObj_heap_other (by omega)]; exact World.alloc_heap_new W _
  refine ⟨?_, ?_, ?_⟩ <;> (unfold World.cell?; rw [h]; rfl)
theorem on_ln {own : Int} {x : Oq} (h : on own x = true) (h1 : ¬ x.1 = 1) : ln own x = 1 := by
  simp only [on, Bool.or_eq_true, beq_iff_eq] at h
  unfold ln
  rw [if_neg h1, if_pos (by rcases h with (h | h) | h; (· exact absurd h h1); (· exact Or.inl h); exact Or.inr h)]

/-- what rightSide keeps -/
structure DI (w : World) (own : Int) (v : Value) (xs : List Oq) (k : Nat) (W : World) : Prop where
  bel : Below w.heap.size w W
  res : Boxed W w.heap.size 4 (.bool false)
  st : ∃ e, ((sd own xs).take k).foldl (rs own) (some false) = some e ∧ Boxed W (w.heap.size + 1) 4 (.bool e)
  k1 : Boxed W (w.heap.size + 1 + 1) 27 v
  k2 : Boxed W (w.heap.size + 1 + 1 + 1) 3 (.int .i64 own)
theorem DI.later {w : World} {own : Int} {v : Value} {xs : List Oq} {k : Nat} {W W' : World} (h : DI w own v xs k W) (hb : Below W.heap.size W W') : DI w own v xs k W' :=
  ⟨h.bel.trans (hb.mono h.bel.size), box_later h.res hb, by obtain ⟨e, h1, h2⟩ := h.st; exact ⟨e, h1, box_later h2 hb⟩, box_later h.k1 hb, box_later h.k2 hb⟩
theorem DI.putObj {w : World} {own : Int} {v : Value} {xs : List Oq} {k : Nat} {W : World} (h : DI w own v xs k W) {l : Nat} (o' : Obj) (hl : w.heap.size + 1 + 1 + 1 + 1 ≤ l) : DI w own v xs k (W.putObj l o') :=
  ⟨bel_put h.bel _ (by omega), box_keep h.res (World.putObj_heap_other (by omega)), by obtain ⟨e, h1, h2⟩ := h.st; exact ⟨e, h1, box_keep h2 (World.putObj_heap_other (by omega))⟩, box_keep h.k1 (World.putObj_heap_other (by omega)), box_keep h.k2 (World.putObj_heap_other (by omega))⟩
theorem DI.step {w : World} {own : Int} {v : Value} {xs : List Oq} {k : Nat} {W : World} (h : DI w own v xs k W) (x : Oq) (hx : (sd own xs)[k]? = some x) (he : ((sd own xs).take k).foldl (rs own) (some false) = some false) :
    DI w own v xs (k + 1) (W.setCell ⟨w.heap.size + 1, 0, none⟩ (.bool (opn x))) := by
  obtain ⟨e, _, h2⟩ := h.st
  refine ⟨bel_set h.bel (by omega), box_keep h.res (heap_setCell_ne _ _ _ _ _ (by omega)), ⟨opn x, ?_, Boxed.set _ h2⟩, box_keep h.k1 (heap_setCell_ne _ _ _ _ _ (by omega)), box_keep h.k2 (heap_setCell_ne _ _ _ _ _ (by omega))⟩
  rw [take_snoc hx, List.foldl_append, he]
  simp [rs, sd_on hx]
/-- how rightSide is left ahead of its end -/
def DX (w : World) (own : Int) (xs : List Oq) (c : Code) (W : World) : Prop := c = .ret ∧ Below w.heap.size w W ∧ Boxed W w.heap.size 4 (.bool false) ∧ rsl own xs = none
/-- are the texts short? -/
def Fit (xs : List Oq) : Prop := ∀ x ∈ xs, x.2.2.length ≤ 140737488355328
def sideB (own : Int) (xs : List Oq) : Bool := (rsl own xs).isSome && decide (tot own xs ≤ 2147483648)

end Go.Proofs.Ytdjdiaadflggfaa
