
/-
  Rows of steps with whose they are, in memory; a head of steps in memory, and the rest; a row of one's own that is made at once; no condition.
-/
import Derived.Test.YtbmnflldjkcgnabADoneOpen
import Derived.Test.YtbmnflldjkcgnabCMore
namespace Go.Proofs.Ytbmnflldjkcgnab
open Go.RowKit Go.Proofs.Ytbmnflldjkcgnab.Ln Go.Proofs.Ytbmnflldjkcgnab.Ol

/-- the rest of steps -/
theorem OpsAt.rest2 {w : World} {ao : Option Addr} {n cap k : Nat} {xs : List Oq} (h : OpsAt w (.slice ao n cap) xs) (hn : n = xs.length) (hk : k ≤ n) : OpsAt w (.slice (if cap = k then ao else Option.map (fun x => x.add (k * 3)) ao) (n - k) (cap - k)) (xs.drop k) := by
  by_cases h0 : n - k = 0
  · rw [h0, List.drop_of_length_le (by omega)]
    refine OpsAt.nil _ _ _ fun e => ?_
    rcases h with ⟨_, a, c, e2, e3⟩ | ⟨b, o, c, e2, _⟩
    · cases e2
      by_cases hc : cap = k
      · omega
      · rw [if_neg hc] at e
        have : ao = none := by cases ao with | none => rfl | some _ => cases e
        have := e3 this
        omega
    · cases e2
      by_cases hc : cap = k
      · omega
      · rw [if_neg hc] at e; cases e
  · rcases h with ⟨rfl, a, c, e2, e3⟩ | ⟨b, o, c, e2, h2, h3, h4⟩
    · simp at hn; omega
    · cases e2
      have hc : ¬ cap = k := by omega
      rw [if_neg hc]
      refine Or.inr ⟨b, o + k * 3, cap - k, ?_, by rw [List.length_drop]; omega, h3, fun j e he => ?_⟩
      · rw [List.length_drop]; simp [addr_add]
      · rw [List.getElem?_drop] at he
        have := h4 (k + j) e he
        rw [show o + (k + j) * 3 = o + k * 3 + j * 3 by omega] at this
        exact this
theorem OpsAt.head {w : World} {ao : Option Addr} {n cap k : Nat} {xs : List Oq} (h : OpsAt w (.slice ao n cap) xs) (hn : n = xs.length) (hk : k ≤ n) : OpsAt w (.slice ao k cap) (xs.take k) := by
  rcases h with ⟨rfl, a, c, e2, e3⟩ | ⟨b, o, c, e2, h2, h3, h4⟩
  · cases e2
    obtain rfl : k = 0 := by simpa using hk
    exact OpsAt.nil _ _ _ e3
  · cases e2
    by_cases h0 : k = 0
    · subst h0; exact OpsAt.nil _ _ _
    · refine Or.inr ⟨b, o, cap, by rw [List.length_take]; congr 1; omega, by rw [List.length_take]; omega, h3, fun j e he => ?_⟩
      rw [List.getElem?_take] at he
      split at he
      · exact h4 j e he
      · cases he
theorem OpsAt.room {w : World} {ao : Option Addr} {n cap : Nat} {xs : List Oq} (h : OpsAt w (.slice ao n cap) xs) : n ≤ cap := by
  rcases h with ⟨_, a, c, e, _⟩ | ⟨b, o, c, e, h2, _⟩
  · cases e; exact Nat.zero_le _
  · cases e; exact h2
/-- a row of one step, made at once, is one's own -/
theorem owns_one {w : World} {B : Nat} (hB : B ≤ w.heap.size) (x1 x2 : Int) (x3 : Tx) : (w.alloc (opO x1 x2 x3)).ownsRow B 30 3 (.slice (some ⟨w.heap.size, 0, none⟩) 1 1) ([(x1, x2, x3)] : List Oq).length (cellsO [(x1, x2, x3)]) :=
  ⟨rfl, Or.inr ⟨w.heap.size, 1, _, rfl, hB, World.alloc_heap_new w _, Nat.le_refl _, by unfold maxLen; omega, rfl, rfl⟩⟩

/-- the cells of steps with whose they are -/
def cellsB : List (Oq × Int) → List Value
  | [] => []
  | e :: l => Z e.1.1 :: Z e.1.2.1 :: S e.1.2.2 :: Z e.2 :: cellsB l
theorem cellsB_len (l : List (Oq × Int)) : (cellsB l).length = l.length * 4 := by
  induction l with
  | nil => rfl
  | cons r l ih => simp [cellsB, ih]; omega
theorem cellsB_app (a b : List (Oq × Int)) : cellsB (a ++ b) = cellsB a ++ cellsB b := by
  induction a with
  | nil => rfl
  | cons r l ih => simp [cellsB, ih]
theorem cellsB_at (l : List (Oq × Int)) : ∀ (j : Nat) e, l[j]? = some e → (cellsB l)[j * 4]? = some (Z e.1.1) ∧ (cellsB l)[j * 4 + 1]? = some (Z e.1.2.1) ∧ (cellsB l)[j * 4 + 2]? = some (S e.1.2.2) ∧ (cellsB l)[j * 4 + 3]? = some (Z e.2) := by
  induction l with
  | nil => intro j r h; simp at h
  | cons x l ih =>
    intro j r h
    cases j with
    | zero => simp at h; subst h; exact ⟨rfl, rfl, rfl, rfl⟩
    | succ j =>
      have := ih j r (by simpa using h)
      rw [show (j + 1) * 4 = j * 4 + 1 + 1 + 1 + 1 by omega, show j * 4 + 1 + 1 + 1 + 1 + 1 = (j * 4 + 1) + 1 + 1 + 1 + 1 by omega, show j * 4 + 1 + 1 + 1 + 1 + 2 = (j * 4 + 2) + 1 + 1 + 1 + 1 by omega, show j * 4 + 1 + 1 + 1 + 1 + 3 = (j * 4 + 3) + 1 + 1 + 1 + 1 by omega]
      simp only [cellsB, List.getElem?_cons_succ]
      exact this
/-- steps with whose they are lie in memory -/
def ByAt (w : World) (v : Value) (xs : List (Oq × Int)) : Prop :=
  (xs = [] ∧ ∃ ao cap, v = .slice ao 0 cap ∧ (ao = none → cap = 0)) ∨ ∃ b o cap, v = .slice (some ⟨b, o, none⟩) xs.length cap ∧ xs.length ≤ cap ∧ b < w.heap.size ∧ ∀ (j : Nat) e, xs[j]? = some e → w.cell? ⟨b, o + j * 4, none⟩ = some (Z e.1.1) ∧ w.cell? ⟨b, o + j * 4 + 1, none⟩ = some (Z e.1.2.1) ∧ w.cell? ⟨b, o + j * 4 + 2, none⟩ = some (S e.1.2.2) ∧ w.cell? ⟨b, o + j * 4 + 3, none⟩ = some (Z e.2)
theorem ByAt.later {w w' : World} {v : Value} {xs : List (Oq × Int)} (h : ByAt w v xs) (hb : Below w.heap.size w w') : ByAt w' v xs := by
  rcases h with h | ⟨b, o, cap, h1, h2, h3, h4⟩
  · exact Or.inl h
  · refine Or.inr ⟨b, o, cap, h1, h2, Nat.lt_of_lt_of_le h3 hb.size, fun j x hx => ?_⟩
    rw [hb.cell (p := ⟨b, o + j * 4, none⟩) h3, hb.cell (p := ⟨b, o + j * 4 + 1, none⟩) h3, hb.cell (p := ⟨b, o + j * 4 + 2, none⟩) h3, hb.cell (p := ⟨b, o + j * 4 + 3, none⟩) h3]
    exact h4 j x hx
theorem ByAt.shape {w : World} {v : Value} {xs : List (Oq × Int)} (h : ByAt w v xs) : ∃ ao cap, v = .slice ao xs.length cap := by
  rcases h with ⟨rfl, ao, cap, rfl, _⟩ | ⟨b, o, cap, rfl, _⟩
  · exact ⟨ao, cap, rfl⟩
  · exact ⟨_, cap, rfl⟩
theorem ByAt.open_ {w : World} {v : Value} {xs : List (Oq × Int)} (h : ByAt w v xs) : ∃ ao cap, v = .slice ao xs.length cap ∧ ∀ (j : Nat) x, xs[j]? = some x → ∃ b o, ao = some ⟨b, o, none⟩ ∧ xs.length ≤ cap ∧ b < w.heap.size ∧ (w.cell? ⟨b, o + j * 4, none⟩ = some (.int .i64 x.1.1) ∧ w.cell? ⟨b, o + j * 4 + 1, none⟩ = some (.int .i64 x.1.2.1) ∧ w.cell? ⟨b, o + j * 4 + 2, none⟩ = some (.string ⟨x.1.2.2.toArray⟩) ∧ w.cell? ⟨b, o + j * 4 + 3, none⟩ = some (.int .i64 x.2)) := by
  rcases h with ⟨rfl, ao, cap, rfl, _⟩ | ⟨b, o, cap, rfl, h1, h2, h3⟩
  · exact ⟨ao, cap, rfl, fun j x hx => by simp at hx⟩
  · exact ⟨_, cap, rfl, fun j x hx => ⟨b, o, rfl, h1, h2, h3 j x hx⟩⟩
end Go.Proofs.Ytbmnflldjkcgnab
