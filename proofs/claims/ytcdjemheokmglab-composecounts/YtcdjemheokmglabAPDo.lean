
/-
  What the document's own Do answers at any steps and lines that lie in memory: what comes of lines by steps; conditions: the lists' and texts' lengths.
-/
import Derived.Test.YtcdjemheokmglabADone
import Derived.Test.YtcdjemheokmglabOPRight
namespace Go.Proofs.Ytcdjemheokmglab
open Go.RowKit Go.Proofs.Ytcdjemheokmglab.Ln Go.Proofs.Ytcdjemheokmglab.Ol

theorem RowAt.room {w : World} {ao : Option Addr} {n cap : Nat} {xs : List Tx} (h : RowAt w (.slice ao n cap) xs) : n ≤ cap := by
  rcases h with ⟨_, a, c, e, _⟩ | ⟨b, o, c, e, h2, _⟩
  · cases e; exact Nat.zero_le _
  · cases e; exact h2
/-- the rest of a list, whatever it is -/
theorem RowAt.rest2 {w : World} {ao : Option Addr} {n cap k : Nat} {xs : List Tx} (h : RowAt w (.slice ao n cap) xs) (hn : n = xs.length) (hk : k ≤ n) : RowAt w (.slice (if cap = k then ao else Option.map (fun x => x.add k) ao) (n - k) (cap - k)) (xs.drop k) := by
  by_cases h0 : n - k = 0
  · rw [h0, List.drop_of_length_le (by omega)]
    refine RowAt.nil _ _ _ fun e => ?_
    rcases h with ⟨_, a, c, e2, e3⟩ | ⟨b, o, c, e2, _⟩
    · cases e2
      by_cases hc : cap = k
      · omega
      · rw [if_neg hc] at e
        have : ao = none := by cases ao with | none => rfl | some _ => cases e
        have := e3 this
        omega
    · cases e2
      by_cases hc : cap = k
      · omega
      · rw [if_neg hc] at e; cases e
  · rcases h with ⟨rfl, a, c, e2, e3⟩ | ⟨b, o, c, e2, h3⟩
    · simp at hn; omega
    · cases e2
      have hr := RowAt.rest (k := k) (Or.inr ⟨b, o, cap, rfl, h3⟩ : RowAt w (.slice (some ⟨b, o, none⟩) xs.length cap) xs) rfl hk
      have hc : ¬ cap = k := by have := h3.1; omega
      rw [if_neg hc]
      simpa [addr_add] using hr
/-- where the doing stands, by a place -/
structure PK (w : World) (old : List Tx) (l : List Oq) (q : Value) (out : List Tx) (p : Nat) (W : World) : Prop where
  st : dsl old l = some (out, p)
  own : W.ownsRow w.heap.size 9 1 q out.length (out.map S)
  bel : Below w.heap.size w W

/-- a variable that was made last reads as it did behind an append -/
theorem adds_cell {wr W W' : World} {B n : Nat} {q v' : Value} {cs : List Value} (ho : wr.ownsRow B 9 1 q n cs) (ha : Adds W W' q v') (hp : wr.heap.size < W.heap.size) (i : Nat) : W'.cell? ⟨wr.heap.size, i, none⟩ = W.cell? ⟨wr.heap.size, i, none⟩ :=
  ha.1.cell_far ⟨wr.heap.size, i, none⟩ hp (fun e => by have h2 : wr.heap.size < wr.heap.size := (ho.lt _ e.symm).2; omega)

end Go.Proofs.Ytcdjemheokmglab
