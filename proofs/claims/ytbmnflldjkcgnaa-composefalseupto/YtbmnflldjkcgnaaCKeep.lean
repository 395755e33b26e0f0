
/-
  What is kept while two lists of steps are gone through: where they lie, and the row that is made; conditions: the lists' lengths.
-/
import Derived.Test.YtbmnflldjkcgnaaCOn
namespace Go.Proofs.Ytbmnflldjkcgnaa
open Go.RowKit Go.Proofs.Ytbmnflldjkcgnaa.Ln Go.Proofs.Ytbmnflldjkcgnaa.Ol

/-- how long a slice is -/
def lenS : Value → Nat
  | .slice _ n _ => n
  | _ => 0
/-- both lists, and the row that is made -/
structure KW (w : World) (p q : List Oq) (o : List (Oq × Int)) (vp vq vo : Value) (W : World) : Prop where
  bel : Below w.heap.size w W
  pa : OpsAt W vp p
  qa : OpsAt W vq q
  oo : W.ownsRow w.heap.size 58 4 vo o.length (cellsB o)
  np : p ≠ [] → ∀ b, vp.ownBlock = some b → vo.ownBlock ≠ some b
  nq : q ≠ [] → ∀ b, vq.ownBlock = some b → vo.ownBlock ≠ some b
theorem KW.later {w : World} {p q : List Oq} {o : List (Oq × Int)} {vp vq vo : Value} {W W' : World} (h : KW w p q o vp vq vo W) (hb : Below W.heap.size W W') : KW w p q o vp vq vo W' :=
  ⟨h.bel.trans (hb.mono h.bel.size), h.pa.later hb, h.qa.later hb, owns_later h.oo hb, h.np, h.nq⟩
theorem KW.alloc {w : World} {p q : List Oq} {o : List (Oq × Int)} {vp vq vo : Value} {W : World} (h : KW w p q o vp vq vo W) (x : Obj) : KW w p q o vp vq vo (W.alloc x) := h.later ((Below.refl _ W).alloc (Nat.le_refl _) x)
theorem OpsAt.ownLt {W : World} {v : Value} {xs : List Oq} (h : OpsAt W v xs) (hne : xs ≠ []) : ∀ b, v.ownBlock = some b → b < W.heap.size := by
  intro b hb
  obtain ⟨b', o, cap, rfl, _, hlt, _⟩ := h.cells hne
  simp only [Value.ownBlock, Option.some.injEq] at hb
  omega
theorem OpsAt.grown {W W' : World} {v : Value} {xs : List Oq} {row : Option Nat} (h : OpsAt W v xs) (hg : W.grownBy W' row) (hr : xs ≠ [] → ∀ b, v.ownBlock = some b → row ≠ some b) : OpsAt W' v xs := by
  by_cases hx0 : xs = []
  · subst hx0
    rcases h with h | ⟨b, o, cap, h1, h2, h3, h4⟩
    · exact Or.inl h
    · exact Or.inl ⟨rfl, _, _, h1, fun e => by cases e⟩
  rcases h with h | ⟨b, o, cap, h1, h2, h3, h4⟩
  · exact Or.inl h
  · subst h1
    have hne : some b ≠ row := fun e => hr hx0 b rfl e.symm
    refine Or.inr ⟨b, o, cap, rfl, h2, Nat.lt_of_lt_of_le h3 hg.size, fun j x hx => ?_⟩
    rw [hg.cell_far ⟨b, o + j * 3, none⟩ h3 hne, hg.cell_far ⟨b, o + j * 3 + 1, none⟩ h3 hne, hg.cell_far ⟨b, o + j * 3 + 2, none⟩ h3 hne]
    exact h4 j x hx
/-- a step is added to the row -/
theorem KW.add {w : World} {p q : List Oq} {o : List (Oq × Int)} {vp vq vo v' : Value} {W W' : World} {x : Oq × Int} (h : KW w p q o vp vq vo W) (ho : W'.ownsRow w.heap.size 58 4 v' (o.length + 1) (cellsB (o ++ [x]))) (hg : W.grownBy W' vo.ownBlock) (hv : v'.ownBlock = vo.ownBlock ∨ v'.ownBlock = some W.heap.size) : KW w p q (o ++ [x]) vp vq v' W' := by
  refine ⟨h.bel.trans ⟨hg.os, hg.tape, hg.output, hg.size, fun k hk => hg.block k (by have := h.bel.size; omega) (fun e => by have := (h.oo.lt k e.symm).1; omega)⟩, h.pa.grown hg h.np, h.qa.grown hg h.nq, by rw [List.length_append]; exact ho, fun hne b hb e => ?_, fun hne b hb e => ?_⟩
  · rcases hv with e2 | e2
    · rw [e2] at e; exact h.np hne b hb e
    · rw [e2] at e; cases e; have := h.pa.ownLt hne _ hb; omega
  · rcases hv with e2 | e2
    · rw [e2] at e; exact h.nq hne b hb e
    · rw [e2] at e; cases e; have := h.qa.ownLt hne _ hb; omega
/-- one of the lists goes on -/
theorem KW.goP {w : World} {p p' q : List Oq} {o : List (Oq × Int)} {vp vp' vq vo : Value} {W W' : World} (h : KW w p q o vp vq vo W) (hb : Below W.heap.size W W') (ho : OpsAt W' vp' p') (hne : p' ≠ [] → p ≠ []) (hv : ∀ b, vp'.ownBlock = some b → vp.ownBlock = some b ∨ W.heap.size ≤ b) : KW w p' q o vp' vq vo W' := by
  have h2 := h.later hb
  refine ⟨h2.bel, ho, h2.qa, h2.oo, fun hn b hb2 e => ?_, h2.nq⟩
  rcases hv b hb2 with e2 | e2
  · exact h.np (hne hn) b e2 e
  · have := (h.oo.lt b e).2; omega
theorem KW.goQ {w : World} {p q q' : List Oq} {o : List (Oq × Int)} {vp vq vq' vo : Value} {W W' : World} (h : KW w p q o vp vq vo W) (hb : Below W.heap.size W W') (ho : OpsAt W' vq' q') (hne : q' ≠ [] → q ≠ []) (hv : ∀ b, vq'.ownBlock = some b → vq.ownBlock = some b ∨ W.heap.size ≤ b) : KW w p q' o vp vq' vo W' := by
  have h2 := h.later hb
  refine ⟨h2.bel, h2.pa, ho, h2.oo, h2.np, fun hn b hb2 e => ?_⟩
  rcases hv b hb2 with e2 | e2
  · exact h.nq (hne hn) b e2 e
  · have := (h.oo.lt b e).2; omega
theorem onn_ne {p : List Oq} {n : Int} (h : onn p n ≠ []) : p ≠ [] := fun e => h (by rw [e]; rfl)
/-- a list with something at its head -/
theorem OpsAt.first {w : World} {v : Value} {x : Oq} {l : List Oq} (h : OpsAt w v (x :: l)) : ∃ b o cap, v = .slice (some ⟨b, o, none⟩) (l.length + 1) cap ∧ l.length + 1 ≤ cap ∧ b < w.heap.size ∧ w.cell? ⟨b, o, none⟩ = some (.int .i64 x.1) ∧ w.cell? ⟨b, o + 1, none⟩ = some (.int .i64 x.2.1) ∧ w.cell? ⟨b, o + 2, none⟩ = some (.string ⟨x.2.2.toArray⟩) := by
  obtain ⟨b, o, cap, e, h2, h3, h4⟩ := h.cells (by simp)
  have h5 := h4 0 x rfl
  rw [show o + 0 * 3 = o by omega] at h5
  exact ⟨b, o, cap, e, h2, h3, h5.1, h5.2.1, h5.2.2⟩
/-- the rest of a list with something at its head -/
theorem OpsAt.behind {w : World} {b o cap : Nat} {x : Oq} {l : List Oq} (h : OpsAt w (.slice (some ⟨b, o, none⟩) (l.length + 1) cap) (x :: l)) : OpsAt w (.slice (if cap = 1 then some ⟨b, o, none⟩ else some ⟨b, o + 3, none⟩) l.length (cap - 1)) l := by
  have := OpsAt.rest2 (k := 1) h rfl (by omega)
  by_cases hc : cap = 1
  · rw [if_pos hc] at this ⊢; simpa using this
  · rw [if_neg hc] at this ⊢; simpa [addr_add] using this

end Go.Proofs.Ytbmnflldjkcgnaa
