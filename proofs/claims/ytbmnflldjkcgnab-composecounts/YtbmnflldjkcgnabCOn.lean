
/-
  What the document's own on and ops answer at any steps that lie in memory; conditions: the lists' lengths.
-/
import Derived.Test.YtbmnflldjkcgnabCBase
namespace Go.Proofs.Ytbmnflldjkcgnab
open Go.RowKit Go.Proofs.Ytbmnflldjkcgnab.Ln Go.Proofs.Ytbmnflldjkcgnab.Ol

theorem far_cell {W W' : World} {g n cp : Nat} {v' : Value} (ha : Adds W W' (.slice (some ⟨g, 0, none⟩) n cp) v') {b i : Nat} (hb : b < W.heap.size) (hne : b ≠ g) {u : Value} (h : W.cell? ⟨b, i, none⟩ = some u) : W'.cell? ⟨b, i, none⟩ = some u :=
  (ha.1.cell_far ⟨b, i, none⟩ hb (fun e => by simp only [Value.ownBlock, Option.some.injEq] at e; exact hne e)).trans h

theorem fresh_own {B : Nat} {W W' : World} {g n cp : Nat} {v' : Value} {Q : Nat → Prop} (ha : Adds W W' (.slice (some ⟨g, 0, none⟩) n cp) v') (hB : B ≤ W.heap.size) (hg : B ≤ g := by first | exact Nat.le_refl _ | omega) : ∀ b, v'.ownBlock = some b → Q b ∨ B ≤ b := by
  intro b h
  rcases ha.2 with e | ⟨k, e, hk⟩
  · rw [e] at h
    simp only [Value.ownBlock, Option.some.injEq] at h
    exact Or.inr (by omega)
  · rw [e] at h
    cases h
    exact Or.inr (by omega)

end Go.Proofs.Ytbmnflldjkcgnab
