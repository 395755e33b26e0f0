
/-
  Rows of steps with whose they are, in memory; a head of steps in memory, and the rest; a row of one's own that is made at once; no condition.
-/
import Derived.Test.YtbmnflldjkcgnaaADoneOpen
import Derived.Test.YtbmnflldjkcgnaaCMore
namespace Go.Proofs.Ytbmnflldjkcgnaa
open Go.RowKit Go.Proofs.Ytbmnflldjkcgnaa.Ln Go.Proofs.Ytbmnflldjkcgnaa.Ol

/-- the rest of steps -/
theorem OpsAt.rest2 {w : World} {ao : Option Addr} {n cap k : Nat} {xs : List Oq} (h : OpsAt w (.slice ao n cap) xs) (hn : n = xs.length) (hk : k ≤ n) : OpsAt w (.slice (if cap = k then ao else Option.map (fun x => x.add (k * 3)) ao) (n - k) (cap - k)) (xs.drop k) := by
  by_cases h0 : n - k = 0
  · rw [h0, List.drop_of_length_le (by omega)]
    refine OpsAt.nil _ _ _ fun e => ?_
    rcases h with ⟨_, a, c, e2, e3⟩ | ⟨b, o, c, e2, _⟩
    · cases e2
      by_cases hc : cap = k
      · omega
      · rw [if_neg hc] at e
        have : ao = none := by cases ao with | none => rfl | some _ => cases e
        have := e3 this
        omega
    · cases e2
      by_cases hc : cap = k
      · omega
      · rw [if_neg hc] at e; cases e
  · rcases h with ⟨rfl, a, c, e2, e3⟩ | ⟨b, o, c, e2, h2, h3, h4⟩
    · simp at hn; omega
    · cases e2
      have hc : ¬ cap = k := by omega
      rw [if_neg hc]
      refine Or.inr ⟨b, o + k * 3, cap - k, ?_, by rw [List.length_drop]; omega, h3, fun j e he => ?_⟩
      · rw [List.length_drop]; simp [addr_add]
      · rw [List.getElem?_drop] at he
        have := h4 (k + j) e he
        rw [show o + (k + j) * 3 = o + k * 3 + j * 3 by omega] at this
        exact this
theorem OpsAt.head {w : World} {ao : Option Addr} {n cap k : Nat} {xs : List Oq} (h : OpsAt w (.slice ao n cap) xs) (hn : n = xs.length) (hk : k ≤ n) : OpsAt w (.slice ao k cap) (xs.take k) := by
  rcases h with ⟨rfl, a, c, e2, e3⟩ | ⟨b, o, c, e2, h2, h3, h4⟩
  · cases e2
    obtain rfl : k = 0 := by simpa using hk
    exact OpsAt.nil _ _ _ e3
  · cases e2
    by_cases h0 : k = 0
    · subst h0; exact OpsAt.nil _ _ _
    · refine Or.inr ⟨b, o, cap, by rw [List.length_take]; congr 1; omega, by rw [List.length_take]; omega, h3, fun j e he => ?_⟩
      rw [List.getElem?_take] at he
      split at he
      · exact h4 j e he
      · cases he
theorem OpsAt.room {w : World} {ao : Option Addr} {n cap : Nat} {xs : List Oq} (h : OpsAt w (.slice ao n cap) xs) : n ≤ cap := by
  rcases h with ⟨_, a, c, e, _⟩ | ⟨b, o, c, e, h2, _⟩
  · cases e; exact Nat.zero_le _
  · cases e; exact h2
/-- a row of one step, made at once, is one's own -/
theorem owns_one {w : World} {B : Nat} (hB : B ≤ w.heap.size) (x1 x2 : Int) (x3 : Tx) : (w.alloc (opO x1 x2 x3)).ownsRow B 38 3 (.slice (some ⟨w.heap.size, 0, none⟩) 1 1) ([(x1, x2, x3)] : List Oq).length (cellsO [(x1, x2, x3)]) :=
  ⟨rfl, Or.inr ⟨w.heap.size, 1, _, rfl, hB, World.alloc_heap_new w _, Nat.le_refl _, by unfold maxLen; omega, rfl, rfl⟩⟩

/-- the cells of steps with whose they are -/
def cellsB : List (Oq × Int) → List Value
  | [] => []
  | e :: l => Z e.1.1 :: Z e.1.2.1 :: S e.1.2.2 :: Z e.2 :: cellsB l
theorem cellsB_len (l : List (Oq × Int)) : (cellsB l).length = l.length * 4 := by
  induction l with
  | nil => rfl
  | cons r l ih => simp [cellsB, ih]; omega
theorem cellsB_app (a b : List (Oq × Int)) : cellsB (a ++ b) = cellsB a ++ cellsB b := by
  induction a with
  | nil => rfl
  | cons r l ih => simp [cellsB, ih]
theorem cellsB_at (l : List (Oq × Int)) : ∀ (j : Nat) e, l[j]? = some e → (cellsB l)[j * 4]? = some (Z e.1.1) ∧ (cellsB l)[j * 4 + 1]? = some (Z e.1.2.1) ∧ (cellsB l)[j * 4 + 2]? = some (S e.1.2.2) ∧ (cellsB l)[j * 4 + 3]? = some (Z e.2) := by
  induction l with
  | nil => intro j r h; simp at h
  | cons x l ih =>
    intro j r h
    cases j with
    | zero => simp at h; subst h; exact ⟨rfl, rfl, rfl, rfl⟩
    | succ j =>
      have := ih j r (by simpa using h)
      rw [show (j + 1) * 4 = j * 4 + 1 + 1 + 1 + 1 by omega, show j * 4 + 1 + 1 + 1 + 1 + 1 = (j * 4 + 1) + 1 + 1 + 1 + 1 by omega, show j * 4 + 1 + 1 + 1 + 1 + 2 = (j * 4 + 2) + 1 + 1 + 1 + 1 by omega, show j * 4 + 1 + 1 + 1 + 1 + 3 = (j * 4 + 3) + 1 + 1 + 1 + 1 by omega]
      simp only [cellsB, List.getElem?_cons_succ]
      exact this
/-- steps with whose they are lie in memory -/
def ByAt (w : World) (v : Value) (xs : List (Oq × Int)) : Prop :=
  (xs = [] ∧ ∃ ao cap, v = .slice ao 0 cap ∧ (ao = none → cap = 0)) ∨ ∃ b o cap, v = .slice (some ⟨b, o, none⟩) xs.length cap ∧ xs.length ≤ cap ∧ b < w.heap.size ∧ ∀ (j : Nat) e, xs[j]? = some e → w.cell? ⟨b, o + j * 4, none⟩ = some (Z e.1.1) ∧ w.cell? ⟨b, o + j * 4 + 1, none⟩ = some (Z e.1.2.1) ∧ w.cell? ⟨b, o + j * 4 + 2, none⟩ = some (S e.1.2.2) ∧ w.cell? ⟨b, o + j * 4 + 3, none⟩ = some (Z e.2)
theorem ByAt.later {w w' : World} {v : Value} {xs : List (Oq × Int)} (h : ByAt w v xs) (hb : Below w.heap.size w w') : ByAt w' v xs := by
  rcases h with h | ⟨b, o, cap, h1, h2, h3, h4⟩
  · exact Or.inl h
  · refine Or.inr ⟨b, o, cap, h1, h2, Nat.lt_of_lt_of_le h3 hb.size, fun j x hx => ?_⟩
    rw [hb.cell (p := ⟨b, o + j * 4, none⟩) h3, hb.cell (p := ⟨b, o + j * 4 + 1, none⟩) h3, hb.cell (p := ⟨b, o + j * 4 + 2, none⟩) h3, hb.cell (p := ⟨b, o + j * 4 + 3, none⟩) h3]
    exact h4 j x hx
theorem ByAt.shape {w : World} {v : Value} {xs : List (Oq × Int)} (h : ByAt w v xs) : ∃ ao cap, v = .slice ao xs.length cap := by
  rcases h with ⟨rfl, ao, cap, rfl, _⟩ | ⟨b, o, cap, rfl, _⟩
  · exact ⟨ao, cap, rfl⟩
  · exact ⟨_, cap, rfl⟩
theorem ByAt.open_ {w : World} {v : Value} {xs : List (Oq × Int)} (h : ByAt w v xs) : ∃ ao cap, v = .slice ao xs.length cap ∧ ∀ (j : Nat) x, xs[j]? = some x → ∃ b o, ao = some ⟨b, o, none⟩ ∧ xs.length ≤ cap ∧ b < w.heap.size ∧ (w.cell? ⟨b, o + j * 4, none⟩ = some (.int .i64 x.1.1) ∧ w.cell? ⟨b, o + j * 4 + 1, none⟩ = some (.int .i64 x.1.2.1) ∧ w.cell? ⟨b, o + j * 4 + 2, none⟩ = some (.string ⟨x.1.2.2.toArray⟩) ∧ w.cell? ⟨b, o + j * 4 + 3, none⟩ = some (.int .i64 x.2)) := by
  rcases h with ⟨rfl, ao, cap, rfl, _⟩ | ⟨b, o, cap, rfl, h1, h2, h3⟩
  · exact ⟨ao, cap, rfl, fun j x hx => by simp at hx⟩
  · exact ⟨_, cap, rfl, fun j x hx => ⟨b, o, rfl, h1, h2, h3 j x hx⟩⟩
theorem ByAt.of_owns {w : World} {B n : Nat} {v : Value} {xs : List (Oq × Int)} (h : w.ownsRow B 58 4 v n (cellsB xs)) : ByAt w v xs := by
  have hn : xs.length = n := by have := h.1; rw [cellsB_len] at this; omega
  rcases h.2 with ⟨rfl, h0⟩ | ⟨g, cap, cur, hv, hB, hg, hc, hm, hs, ht⟩
  · exact Or.inl ⟨List.eq_nil_of_length_eq_zero (by omega), none, 0, rfl, fun _ => rfl⟩
  · refine Or.inr ⟨g, 0, cap, by rw [hn]; exact hv, by omega, (Array.getElem?_eq_some_iff.1 hg).1, fun j r hr => ?_⟩
    have ⟨c1, c2, c3, c4⟩ := cellsB_at xs j r hr
    have d1 := h.cells (g := g) (by rw [hv]; rfl) (j * 4) _ c1
    have d2 := h.cells (g := g) (by rw [hv]; rfl) (j * 4 + 1) _ c2
    have d3 := h.cells (g := g) (by rw [hv]; rfl) (j * 4 + 2) _ c3
    have d4 := h.cells (g := g) (by rw [hv]; rfl) (j * 4 + 3) _ c4
    rw [addr_add] at d1 d2 d3 d4
    exact ⟨d1, by rw [Nat.add_assoc]; exact d2, by rw [Nat.add_assoc]; exact d3, by rw [Nat.add_assoc]; exact d4⟩
theorem Try.infoBy : (Try.prog.info? 58).map (fun i => (i.zero, i.size, i.bytes)) = some (some (.agg #[.int .i64 0, .int .i64 0, .string ⟨#[]⟩, .int .i64 0]), 4, 40) := by kernel_rfl
/-- a step with whose it is: its own block -/
abbrev byB (x1 x2 : Int) (x3 : Tx) (k : Int) : Obj := .cells #[.int .i64 x1, .int .i64 x2, .string ⟨x3.toArray⟩, .int .i64 k] 58
theorem wpList_append_by (w : World) {ops : Array Oper} {rest : List Oper} {o : Oper} {a : Act} {Q : Exit → Act → World → Prop} (hw : Region.wanted o (yielded ops a.tmps) = true) (s x : Operand)
    (ho : o.op = .call { callee := .builtin .append, args := #[s, x], argTypes := #[39, 39] }) (B : Nat) (v : Value) (xs : List (Oq × Int)) (x1 x2 : Int) (x3 : Tx) (k : Int) (w0 : World) (n0 : Nat) (hw0 : w = w0.alloc (byB x1 x2 x3 k)) (hn0 : w0.heap.size = n0) (hs : a.eval s = v) (hx : a.eval x = .slice (some ⟨n0, 0, none⟩) 1 1)
    (hown : w.ownsRow B 58 4 v xs.length (cellsB xs)) (hl : xs.length + 1 ≤ 1099511627776) (hB : B ≤ w.heap.size)
    (h : ∀ v' w', w'.ownsRow B 58 4 v' (xs.length + 1) (cellsB (xs ++ [((x1, x2, x3), k)])) → w.grownBy w' v.ownBlock → (v'.ownBlock = v.ownBlock ∨ v'.ownBlock = some w.heap.size) → wpList Try.prog ops Q rest (a.put o.dst v') w') : wpList Try.prog ops Q (o :: rest) a w := by
  obtain ⟨i0, hi, hz0, hz1, hz2⟩ := info_parts Try.infoBy
  refine BigFrame.wpList_want hw fun K hK => ?_
  obtain ⟨v', w', hr, h2, h3, _, h5⟩ := run_append_own_at (P := Try.prog) w B 39 o.type 58 i0 (.agg #[.int .i64 0, .int .i64 0, .string ⟨#[]⟩, .int .i64 0]) 4 40 Try.underlying39 hi hz0 hz1 hz2 rfl (by decide) v xs.length (cellsB xs) hown ⟨n0, 0, none⟩ 1 1 [.int .i64 x1, .int .i64 x2, .string ⟨x3.toArray⟩, .int .i64 k] rfl (fun j z hj => by
    subst hw0 hn0
    match j, hj with
    | 0, hj => simp at hj; subst hj; simp [Addr.add]
    | 1, hj => simp at hj; subst hj; simp [Addr.add]
    | 2, hj => simp at hj; subst hj; simp [Addr.add]
    | 3, hj => simp at hj; subst hj; simp [Addr.add]
    | (j + 4), hj => simp at hj) (fun u hu => by simp at hu; rcases hu with rfl | rfl | rfl | rfl <;> rfl) (by unfold maxLen; omega) (by omega) hB
  have hfin := hK _ _ (h v' w' (by rw [cellsB_app]; exact h2) h3 h5)
  unfold Oper.wp execOp
  simp only [ho, resolve, invoke, builtin, Sem.run_bind, Sem.run_pure, Result.andThen_ok, List.map_toArray, List.map_cons, List.map_nil, hs, hx, hr]
  exact hfin

end Go.Proofs.Ytbmnflldjkcgnaa
