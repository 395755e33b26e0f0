
/-
  What the program's apply.Do and apply.Fits answer at any steps and lines that lie in memory: what comes of lines by steps, and whether it can be done; conditions: the lists' and texts' lengths.
-/
import Derived.Test.YtcdjemheokmglabADone
namespace Go.Proofs.Ytcdjemheokmglab
open Go.RowKit Go.Proofs.Ytcdjemheokmglab.Ln Go.Proofs.Ytcdjemheokmglab.Ol

theorem doo_fit {xs : List Oq} {old a : List Tx} (hf : Fit xs) (hfo : FitT old) (h : doo xs old = some a) : FitT a := by
  obtain ⟨_, _, out, p, hd, rfl, _, _⟩ := doo_some h
  intro t ht
  rcases List.mem_append.1 ht with h | h
  · rcases dsl_mem old xs out p hd t h with h | ⟨x, hx, rfl⟩
    · exact hfo t h
    · exact hf x hx
  · exact hfo t (List.mem_of_mem_drop h)

theorem owns_formT {W : World} {B : Nat} {v : Value} {l : List Tx} (h : W.ownsRow B 9 1 v l.length (l.map S)) : ∃ ao cap, v = .slice ao l.length cap ∧ ∀ (j : Nat) x, l[j]? = some x → ∃ g, ao = some ⟨g, 0, none⟩ ∧ l.length ≤ cap ∧ B ≤ g ∧ g < W.heap.size := by
  rcases h.2 with ⟨e, h0⟩ | ⟨g', cap, cur, hv, hB, hg, hc, _⟩
  · have : l = [] := List.eq_nil_of_length_eq_zero h0
    subst this
    exact ⟨none, 0, e, fun j x hx => by simp at hx⟩
  · exact ⟨_, cap, hv, fun j x hx => ⟨g', rfl, hc, hB, (Array.getElem?_eq_some_iff.1 hg).1⟩⟩
theorem owns_cellT {W : World} {B g n cp : Nat} {l : List Tx} (h : W.ownsRow B 9 1 (.slice (some ⟨g, 0, none⟩) n cp) n (l.map S)) {j : Nat} {x : Tx} (hx : l[j]? = some x) : W.cell? ⟨g, j, none⟩ = some (.string ⟨x.toArray⟩) := by
  have := h.cells (g := g) rfl j (S x) (by simp [hx])
  rw [addr_add, Nat.zero_add] at this
  exact this
theorem owns_thawT {W : World} {B g n cp : Nat} {cs : List Value} (h : W.ownsRow B 9 1 (.slice (some ⟨g, 0, none⟩) n cp) n cs) (i : Nat) : W.frozen? ⟨g, i, none⟩ = false := by
  rcases h.2 with ⟨e, _⟩ | ⟨g', cap', cur, hv, hB, hg, _⟩
  · cases e
  · cases hv; simp [World.frozen?, hg]
/-- a text of a row is laid anew -/
theorem owns_setT {W : World} {B g n cp j : Nat} {l : List Tx} (x : Tx) (h : W.ownsRow B 9 1 (.slice (some ⟨g, 0, none⟩) n cp) n (l.map S)) (hj : j < l.length) : (W.setCell ⟨g, j, none⟩ (.string ⟨x.toArray⟩)).ownsRow B 9 1 (.slice (some ⟨g, 0, none⟩) n cp) n ((l.set j x).map S) := by
  rcases h.2 with ⟨e, _⟩ | ⟨g', cap', cur, hv, hB, hg, hc, hm, hs, ht⟩
  · cases e
  · cases hv
    refine ⟨by have := h.1; simpa using this, Or.inr ⟨g, cp, cur.setIfInBounds j (.string ⟨x.toArray⟩), rfl, hB, ?_, hc, hm, by simpa using hs, ?_⟩⟩
    · simp [World.setCell, Array.getElem?_modify, hg]
    · have e1 : (l.set j x).map S = (l.map S).set j (S x) := by rw [List.map_set]
      have hjc : j < n * 1 := by have := h.1; simp at this; omega
      rw [e1, ← ht, Array.toList_setIfInBounds, List.take_set]; rfl
theorem set_same {α : Type} {l : List α} {j : Nat} {x : α} (h : l[j]? = some x) : l.set j x = l := by
  obtain ⟨hj, e⟩ := List.getElem?_eq_some_iff.1 h
  rw [← e]; exact List.set_getElem_self hj

end Go.Proofs.Ytcdjemheokmglab
