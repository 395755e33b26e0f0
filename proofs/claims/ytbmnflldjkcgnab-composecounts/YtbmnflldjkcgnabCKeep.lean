
/-
  What is kept while two lists of steps are gone through: where they lie, and the row that is made; conditions: the lists' lengths.
-/
import Derived.Test.YtbmnflldjkcgnabCOn
namespace Go.Proofs.Ytbmnflldjkcgnab
open Go.RowKit Go.Proofs.Ytbmnflldjkcgnab.Ln Go.Proofs.Ytbmnflldjkcgnab.Ol

/-- how long a slice is -/
def lenS : Value → Nat
  | .slice _ n _ => n
  | _ => 0
theorem OpsAt.ownLt {W : World} {v : Value} {xs : List Oq} (h : OpsAt W v xs) (hne : xs ≠ []) : ∀ b, v.ownBlock = some b → b < W.heap.size := by
  intro b hb
  obtain ⟨b', o, cap, rfl, _, hlt, _⟩ := h.cells hne
  simp only [Value.ownBlock, Option.some.injEq] at hb
  omega
theorem OpsAt.grown {W W' : World} {v : Value} {xs : List Oq} {row : Option Nat} (h : OpsAt W v xs) (hg : W.grownBy W' row) (hr : xs ≠ [] → ∀ b, v.ownBlock = some b → row ≠ some b) : OpsAt W' v xs := by
  by_cases hx0 : xs = []
  · subst hx0
    rcases h with h | ⟨b, o, cap, h1, h2, h3, h4⟩
    · exact Or.inl h
    · exact Or.inl ⟨rfl, _, _, h1, fun e => by cases e⟩
  rcases h with h | ⟨b, o, cap, h1, h2, h3, h4⟩
  · exact Or.inl h
  · subst h1
    have hne : some b ≠ row := fun e => hr hx0 b rfl e.symm
    refine Or.inr ⟨b, o, cap, rfl, h2, Nat.lt_of_lt_of_le h3 hg.size, fun j x hx => ?_⟩
    rw [hg.cell_far ⟨b, o + j * 3, none⟩ h3 hne, hg.cell_far ⟨b, o + j * 3 + 1, none⟩ h3 hne, hg.cell_far ⟨b, o + j * 3 + 2, none⟩ h3 hne]
    exact h4 j x hx
theorem onn_ne {p : List Oq} {n : Int} (h : onn p n ≠ []) : p ≠ [] := fun e => h (by rw [e]; rfl)
/-- a list with something at its head -/
theorem OpsAt.first {w : World} {v : Value} {x : Oq} {l : List Oq} (h : OpsAt w v (x :: l)) : ∃ b o cap, v = .slice (some ⟨b, o, none⟩) (l.length + 1) cap ∧ l.length + 1 ≤ cap ∧ b < w.heap.size ∧ w.cell? ⟨b, o, none⟩ = some (.int .i64 x.1) ∧ w.cell? ⟨b, o + 1, none⟩ = some (.int .i64 x.2.1) ∧ w.cell? ⟨b, o + 2, none⟩ = some (.string ⟨x.2.2.toArray⟩) := by
  obtain ⟨b, o, cap, e, h2, h3, h4⟩ := h.cells (by simp)
  have h5 := h4 0 x rfl
  rw [show o + 0 * 3 = o by omega] at h5
  exact ⟨b, o, cap, e, h2, h3, h5.1, h5.2.1, h5.2.2⟩
/-- the rest of a list with something at its head -/
theorem OpsAt.behind {w : World} {b o cap : Nat} {x : Oq} {l : List Oq} (h : OpsAt w (.slice (some ⟨b, o, none⟩) (l.length + 1) cap) (x :: l)) : OpsAt w (.slice (if cap = 1 then some ⟨b, o, none⟩ else some ⟨b, o + 3, none⟩) l.length (cap - 1)) l := by
  have := OpsAt.rest2 (k := 1) h rfl (by omega)
  by_cases hc : cap = 1
  · rw [if_pos hc] at this ⊢; simpa using this
  · rw [if_neg hc] at this ⊢; simpa [addr_add] using this

end Go.Proofs.Ytbmnflldjkcgnab
