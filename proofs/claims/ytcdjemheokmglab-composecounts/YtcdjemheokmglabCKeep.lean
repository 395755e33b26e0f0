
/-
  What is kept while two lists of steps are gone through: where they lie, and the row that is made; conditions: the lists' lengths.
-/
import Derived.Test.YtcdjemheokmglabADoneOpen
import Derived.Test.YtcdjemheokmglabCMore
namespace Go.Proofs.Ytcdjemheokmglab
open Go.RowKit Go.Proofs.Ytcdjemheokmglab.Ln Go.Proofs.Ytcdjemheokmglab.Ol

/-- the rest of steps -/
theorem OpsAt.rest2 {w : World} {ao : Option Addr} {n cap k : Nat} {xs : List Oq} (h : OpsAt w (.slice ao n cap) xs) (hn : n = xs.length) (hk : k ≤ n) : OpsAt w (.slice (if cap = k then ao else Option.map (fun x => x.add (k * 3)) ao) (n - k) (cap - k)) (xs.drop k) := by
  by_cases h0 : n - k = 0
  · rw [h0, List.drop_of_length_le (by omega)]
    refine OpsAt.nil _ _ _ fun e => ?_
    rcases h with ⟨_, a, c, e2, e3⟩ | ⟨b, o, c, e2, _⟩
    · cases e2
      by_cases hc : cap = k
      · omega
      · rw [if_neg hc] at e
        have : ao = none := by cases ao with | none => rfl | some _ => cases e
        have := e3 this
        omega
    · cases e2
      by_cases hc : cap = k
      · omega
      · rw [if_neg hc] at e; cases e
  · rcases h with ⟨rfl, a, c, e2, e3⟩ | ⟨b, o, c, e2, h2, h3, h4⟩
    · simp at hn; omega
    · cases e2
      have hc : ¬ cap = k := by omega
      rw [if_neg hc]
      refine Or.inr ⟨b, o + k * 3, cap - k, ?_, by rw [List.length_drop]; omega, h3, fun j e he => ?_⟩
      · rw [List.length_drop]; simp [addr_add]
      · rw [List.getElem?_drop] at he
        have := h4 (k + j) e he
        rw [show o + (k + j) * 3 = o + k * 3 + j * 3 by omega] at this
        exact this
theorem OpsAt.head {w : World} {ao : Option Addr} {n cap k : Nat} {xs : List Oq} (h : OpsAt w (.slice ao n cap) xs) (hn : n = xs.length) (hk : k ≤ n) : OpsAt w (.slice ao k cap) (xs.take k) := by
  rcases h with ⟨rfl, a, c, e2, e3⟩ | ⟨b, o, c, e2, h2, h3, h4⟩
  · cases e2
    obtain rfl : k = 0 := by simpa using hk
    exact OpsAt.nil _ _ _ e3
  · cases e2
    by_cases h0 : k = 0
    · subst h0; exact OpsAt.nil _ _ _
    · refine Or.inr ⟨b, o, cap, by rw [List.length_take]; congr 1; omega, by rw [List.length_take]; omega, h3, fun j e he => ?_⟩
      rw [List.getElem?_take] at he
      split at he
      · exact h4 j e he
      · cases he
theorem OpsAt.room {w : World} {ao : Option Addr} {n cap : Nat} {xs : List Oq} (h : OpsAt w (.slice ao n cap) xs) : n ≤ cap := by
  rcases h with ⟨_, a, c, e, _⟩ | ⟨b, o, c, e, h2, _⟩
  · cases e; exact Nat.zero_le _
  · cases e; exact h2
/-- a row of one step, made at once, is one's own -/
theorem owns_one {w : World} {B : Nat} (hB : B ≤ w.heap.size) (x1 x2 : Int) (x3 : Tx) : (w.alloc (opO x1 x2 x3)).ownsRow B 30 3 (.slice (some ⟨w.heap.size, 0, none⟩) 1 1) ([(x1, x2, x3)] : List Oq).length (cellsO [(x1, x2, x3)]) :=
  ⟨rfl, Or.inr ⟨w.heap.size, 1, _, rfl, hB, World.alloc_heap_new w _, Nat.le_refl _, by unfold maxLen; omega, rfl, rfl⟩⟩

/-- the cells of steps with whose they are -/
def cellsB : List (Oq × Int) → List Value
  | [] => []
  | e :: l => Z e.1.1 :: Z e.1.2.1 :: S e.1.2.2 :: Z e.2 :: cellsB l
theorem cellsB_len (l : List (Oq × Int)) : (cellsB l).length = l.length * 4 := by
  induction l with
  | nil => rfl
  | cons r l ih => simp [cellsB, ih]; omega
theorem cellsB_app (a b : List (Oq × Int)) : cellsB (a ++ b) = cellsB a ++ cellsB b := by
  induction a with
  | nil => rfl
  | cons r l ih => simp [cellsB, ih]
theorem cellsB_at (l : List (Oq × Int)) : ∀ (j : Nat) e, l[j]? = some e → (cellsB l)[j * 4]? = some (Z e.1.1) ∧ (cellsB l)[j * 4 + 1]? = some (Z e.1.2.1) ∧ (cellsB l)[j * 4 + 2]? = some (S e.1.2.2) ∧ (cellsB l)[j * 4 + 3]? = some (Z e.2) := by
  induction l with
  | nil => intro j r h; simp at h
  | cons x l ih =>
    intro j r h
    cases j with
    | zero => simp at h; subst h; exact ⟨rfl, rfl, rfl, rfl⟩
    | succ j =>
      have := ih j r (by simpa using h)
      rw [show (j + 1) * 4 = j * 4 + 1 + 1 + 1 + 1 by omega, show j * 4 + 1 + 1 + 1 + 1 + 1 = (j * 4 + 1) + 1 + 1 + 1 + 1 by omega, show j * 4 + 1 + 1 + 1 + 1 + 2 = (j * 4 + 2) + 1 + 1 + 1 + 1 by omega, show j * 4 + 1 + 1 + 1 + 1 + 3 = (j * 4 + 3) + 1 + 1 + 1 + 1 by omega]
      simp only [cellsB, List.getElem?_cons_succ]
      exact this
/-- steps with whose they are lie in memory -/
def ByAt (w : World) (v : Value) (xs : List (Oq × Int)) : Prop :=
  (xs = [] ∧ ∃ ao cap, v = .slice ao 0 cap ∧ (ao = none → cap = 0)) ∨ ∃ b o cap, v = .slice (some ⟨b, o, none⟩) xs.length cap ∧ xs.length ≤ cap ∧ b < w.heap.size ∧ ∀ (j : Nat) e, xs[j]? = some e → w.cell? ⟨b, o + j * 4, none⟩ = some (Z e.1.1) ∧ w.cell? ⟨b, o + j * 4 + 1, none⟩ = some (Z e.1.2.1) ∧ w.cell? ⟨b, o + j * 4 + 2, none⟩ = some (S e.1.2.2) ∧ w.cell? ⟨b, o + j * 4 + 3, none⟩ = some (Z e.2)
theorem ByAt.later {w w' : World} {v : Value} {xs : List (Oq × Int)} (h : ByAt w v xs) (hb : Below w.heap.size w w') : ByAt w' v xs := by
  rcases h with h | ⟨b, o, cap, h1, h2, h3, h4⟩
  · exact Or.inl h
  · refine Or.inr ⟨b, o, cap, h1, h2, Nat.lt_of_lt_of_le h3 hb.size, fun j x hx => ?_⟩
    rw [hb.cell (p := ⟨b, o + j * 4, none⟩) h3, hb.cell (p := ⟨b, o + j * 4 + 1, none⟩) h3, hb.cell (p := ⟨b, o + j * 4 + 2, none⟩) h3, hb.cell (p := ⟨b, o + j * 4 + 3, none⟩) h3]
    exact h4 j x hx
theorem ByAt.shape {w : World} {v : Value} {xs : List (Oq × Int)} (h : ByAt w v xs) : ∃ ao cap, v = .slice ao xs.length cap := by
  rcases h with ⟨rfl, ao, cap, rfl, _⟩ | ⟨b, o, cap, rfl, _⟩
  · exact ⟨ao, cap, rfl⟩
  · exact ⟨_, cap, rfl⟩
theorem ByAt.open_ {w : World} {v : Value} {xs : List (Oq × Int)} (h : ByAt w v xs) : ∃ ao cap, v = .slice ao xs.length cap ∧ ∀ (j : Nat) x, xs[j]? = some x → ∃ b o, ao = some ⟨b, o, none⟩ ∧ xs.length ≤ cap ∧ b < w.heap.size ∧ (w.cell? ⟨b, o + j * 4, none⟩ = some (.int .i64 x.1.1) ∧ w.cell? ⟨b, o + j * 4 + 1, none⟩ = some (.int .i64 x.1.2.1) ∧ w.cell? ⟨b, o + j * 4 + 2, none⟩ = some (.string ⟨x.1.2.2.toArray⟩) ∧ w.cell? ⟨b, o + j * 4 + 3, none⟩ = some (.int .i64 x.2)) := by
  rcases h with ⟨rfl, ao, cap, rfl, _⟩ | ⟨b, o, cap, rfl, h1, h2, h3⟩
  · exact ⟨ao, cap, rfl, fun j x hx => by simp at hx⟩
  · exact ⟨_, cap, rfl, fun j x hx => ⟨b, o, rfl, h1, h2, h3 j x hx⟩⟩
end Go.Proofs.Ytcdjemheokmglab

namespace Go.Proofs.Ytcdjemheokmglab
open Go.RowKit Go.Proofs.Ytcdjemheokmglab.Ln Go.Proofs.Ytcdjemheokmglab.Ol

theorem far_cell {W W' : World} {g n cp : Nat} {v' : Value} (ha : Adds W W' (.slice (some ⟨g, 0, none⟩) n cp) v') {b i : Nat} (hb : b < W.heap.size) (hne : b ≠ g) {u : Value} (h : W.cell? ⟨b, i, none⟩ = some u) : W'.cell? ⟨b, i, none⟩ = some u :=
  (ha.1.cell_far ⟨b, i, none⟩ hb (fun e => by simp only [Value.ownBlock, Option.some.injEq] at e; exact hne e)).trans h

theorem fresh_own {B : Nat} {W W' : World} {g n cp : Nat} {v' : Value} {Q : Nat → Prop} (ha : Adds W W' (.slice (some ⟨g, 0, none⟩) n cp) v') (hB : B ≤ W.heap.size) (hg : B ≤ g := by first | exact Nat.le_refl _ | omega) : ∀ b, v'.ownBlock = some b → Q b ∨ B ≤ b := by
  intro b h
  rcases ha.2 with e | ⟨k, e, hk⟩
  · rw [e] at h
    simp only [Value.ownBlock, Option.some.injEq] at h
    exact Or.inr (by omega)
  · rw [e] at h
    cases h
    exact Or.inr (by omega)

end Go.Proofs.Ytcdjemheokmglab

namespace Go.Proofs.Ytcdjemheokmglab
open Go.RowKit Go.Proofs.Ytcdjemheokmglab.Ln Go.Proofs.Ytcdjemheokmglab.Ol

/-- how long a slice is -/
def lenS : Value → Nat
  | .slice _ n _ => n
  | _ => 0
theorem OpsAt.ownLt {W : World} {v : Value} {xs : List Oq} (h : OpsAt W v xs) (hne : xs ≠ []) : ∀ b, v.ownBlock = some b → b < W.heap.size := by
  intro b hb
  obtain ⟨b', o, cap, rfl, _, hlt, _⟩ := h.cells hne
  simp only [Value.ownBlock, Option.some.injEq] at hb
  omega
theorem OpsAt.grown {W W' : World} {v : Value} {xs : List Oq} {row : Option Nat} (h : OpsAt W v xs) (hg : W.grownBy W' row) (hr : xs ≠ [] → ∀ b, v.ownBlock = some b → row ≠ some b) : OpsAt W' v xs := by
  by_cases hx0 : xs = []
  · subst hx0
    rcases h with h | ⟨b, o, cap, h1, h2, h3, h4⟩
    · exact Or.inl h
    · exact Or.inl ⟨rfl, _, _, h1, fun e => by cases e⟩
  rcases h with h | ⟨b, o, cap, h1, h2, h3, h4⟩
  · exact Or.inl h
  · subst h1
    have hne : some b ≠ row := fun e => hr hx0 b rfl e.symm
    refine Or.inr ⟨b, o, cap, rfl, h2, Nat.lt_of_lt_of_le h3 hg.size, fun j x hx => ?_⟩
    rw [hg.cell_far ⟨b, o + j * 3, none⟩ h3 hne, hg.cell_far ⟨b, o + j * 3 + 1, none⟩ h3 hne, hg.cell_far ⟨b, o + j * 3 + 2, none⟩ h3 hne]
    exact h4 j x hx
theorem onn_ne {p : List Oq} {n : Int} (h : onn p n ≠ []) : p ≠ [] := fun e => h (by rw [e]; rfl)
/-- a list with something at its head -/
theorem OpsAt.first {w : World} {v : Value} {x : Oq} {l : List Oq} (h : OpsAt w v (x :: l)) : ∃ b o cap, v = .slice (some ⟨b, o, none⟩) (l.length + 1) cap ∧ l.length + 1 ≤ cap ∧ b < w.heap.size ∧ w.cell? ⟨b, o, none⟩ = some (.int .i64 x.1) ∧ w.cell? ⟨b, o + 1, none⟩ = some (.int .i64 x.2.1) ∧ w.cell? ⟨b, o + 2, none⟩ = some (.string ⟨x.2.2.toArray⟩) := by
  obtain ⟨b, o, cap, e, h2, h3, h4⟩ := h.cells (by simp)
  have h5 := h4 0 x rfl
  rw [show o + 0 * 3 = o by omega] at h5
  exact ⟨b, o, cap, e, h2, h3, h5.1, h5.2.1, h5.2.2⟩
/-- the rest of a list with something at its head -/
theorem OpsAt.behind {w : World} {b o cap : Nat} {x : Oq} {l : List Oq} (h : OpsAt w (.slice (some ⟨b, o, none⟩) (l.length + 1) cap) (x :: l)) : OpsAt w (.slice (if cap = 1 then some ⟨b, o, none⟩ else some ⟨b, o + 3, none⟩) l.length (cap - 1)) l := by
  have := OpsAt.rest2 (k := 1) h rfl (by omega)
  by_cases hc : cap = 1
  · rw [if_pos hc] at this ⊢; simpa using this
  · rw [if_neg hc] at this ⊢; simpa [addr_add] using this

end Go.Proofs.Ytcdjemheokmglab
