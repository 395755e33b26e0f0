
/-
  Lists of texts in memory, whether two are one (the document's SameTexts), and what an append to a list of one's own does; conditions: the lists' lengths.
-/
import Derived.Test.YtbmnflldjkcgnabOStay
namespace Go.Proofs.Ytbmnflldjkcgnab
open Go.RowKit Go.Proofs.Ytbmnflldjkcgnab.Ln Go.Proofs.Ytbmnflldjkcgnab.Ol

/-- a list of texts lies in memory -/
def RowAt (w : World) (v : Value) (xs : List Tx) : Prop :=
  (xs = [] ∧ ∃ ao cap, v = .slice ao 0 cap ∧ (ao = none → cap = 0)) ∨ ∃ b o cap, v = .slice (some ⟨b, o, none⟩) xs.length cap ∧ xs.length ≤ cap ∧ b < w.heap.size ∧ ∀ (j : Nat) x, xs[j]? = some x → w.cell? ⟨b, o + j, none⟩ = some (S x)
theorem RowAt.nil (w : World) (ao : Option Addr) (cap : Nat) (h : ao = none → cap = 0 := by (intro h; first | rfl | cases h)) : RowAt w (.slice ao 0 cap) [] := Or.inl ⟨rfl, ao, cap, rfl, h⟩
theorem RowAt.later {w w' : World} {v : Value} {xs : List Tx} (h : RowAt w v xs) (hb : Below w.heap.size w w') : RowAt w' v xs := by
  rcases h with h | ⟨b, o, cap, h1, h2, h3, h4⟩
  · exact Or.inl h
  · refine Or.inr ⟨b, o, cap, h1, h2, Nat.lt_of_lt_of_le h3 hb.size, fun j x hx => ?_⟩
    rw [hb.cell (p := ⟨b, o + j, none⟩) h3]
    exact h4 j x hx
theorem RowAt.of_owns {w : World} {B n : Nat} {v : Value} {xs : List Tx} (h : w.ownsRow B 9 1 v n (xs.map S)) : RowAt w v xs := by
  have hn : xs.length = n := by simpa using h.1
  rcases h.2 with ⟨rfl, h0⟩ | ⟨g, cap, cur, hv, hB, hg, hc, hm, hs, ht⟩
  · exact Or.inl ⟨List.eq_nil_of_length_eq_zero (by omega), none, 0, rfl, fun _ => rfl⟩
  · refine Or.inr ⟨g, 0, cap, by rw [hn]; exact hv, by omega, (Array.getElem?_eq_some_iff.1 hg).1, fun j x hx => ?_⟩
    have := h.cells (g := g) (by rw [hv]; rfl) j (S x) (by simp [hx])
    rw [addr_add] at this
    exact this
theorem RowAt.shape {w : World} {v : Value} {xs : List Tx} (h : RowAt w v xs) : ∃ ao cap, v = .slice ao xs.length cap := by
  rcases h with ⟨rfl, ao, cap, rfl, _⟩ | ⟨b, o, cap, rfl, _⟩
  · exact ⟨ao, cap, rfl⟩
  · exact ⟨_, cap, rfl⟩
theorem RowAt.cells {w : World} {v : Value} {xs : List Tx} (h : RowAt w v xs) (hne : xs ≠ []) : ∃ b o cap, v = .slice (some ⟨b, o, none⟩) xs.length cap ∧ xs.length ≤ cap ∧ b < w.heap.size ∧ ∀ (j : Nat) x, xs[j]? = some x → w.cell? ⟨b, o + j, none⟩ = some (S x) := by
  rcases h with ⟨rfl, _⟩ | h
  · exact absurd rfl hne
  · exact h
/-- texts are not too long -/
def FitT (xs : List Tx) : Prop := ∀ x ∈ xs, x.length ≤ 140737488355328
/-- the head of a list, and the rest -/
theorem RowAt.head {w : World} {b o n cap k : Nat} {xs : List Tx} (h : RowAt w (.slice (some ⟨b, o, none⟩) n cap) xs) (hn : n = xs.length) (hk : k ≤ n) : RowAt w (.slice (some ⟨b, o, none⟩) k cap) (xs.take k) := by
  subst hn
  rcases h with ⟨rfl, ao, c, e, _⟩ | ⟨b', o', cap', e, h2, h3, h4⟩
  · cases e
    obtain rfl : k = 0 := by simpa using hk
    exact RowAt.nil _ _ _
  · cases e
    by_cases h0 : k = 0
    · subst h0; exact RowAt.nil _ _ _
    · refine Or.inr ⟨b, o, cap, by rw [List.length_take, Nat.min_eq_left hk], by rw [List.length_take]; omega, h3, fun j x hx => ?_⟩
      rw [List.getElem?_take] at hx
      split at hx
      · exact h4 j x hx
      · cases hx
theorem RowAt.rest {w : World} {b o n cap k : Nat} {xs : List Tx} (h : RowAt w (.slice (some ⟨b, o, none⟩) n cap) xs) (hn : n = xs.length) (hk : k ≤ n) : RowAt w (.slice (some ⟨b, o + k, none⟩) (n - k) (cap - k)) (xs.drop k) := by
  subst hn
  by_cases h0 : xs.length - k = 0
  · rw [h0, List.drop_of_length_le (by omega)]; exact RowAt.nil _ _ _
  · rcases h with ⟨rfl, _⟩ | ⟨b', o', cap', e, h2, h3, h4⟩
    · simp at h0
    · cases e
      refine Or.inr ⟨b, o + k, cap - k, by rw [List.length_drop], by rw [List.length_drop]; omega, h3, fun j x hx => ?_⟩
      rw [List.getElem?_drop] at hx
      have := h4 (k + j) x hx
      rw [← Nat.add_assoc] at this
      exact this
theorem one_new (w : World) (u : Value) (t : TypeId) (n : Nat) (hn : w.heap.size = n) : ∀ j z, [u][j]? = some z → (w.alloc (.cells #[u] t)).cell? ((⟨n, 0, none⟩ : Addr).add j) = some z := by
  intro j z hj
  subst hn
  match j, hj with
  | 0, hj => simp at hj; subst hj; simp [Addr.add]
  | (j + 1), hj => simp at hj
theorem row_one (w : World) (x : Tx) (n : Nat) (hn : w.heap.size = n) : RowAt (w.alloc (.cells #[.string ⟨x.toArray⟩] 9)) (.slice (some ⟨n, 0, none⟩) 1 1) [x] := by
  subst hn
  refine Or.inr ⟨w.heap.size, 0, 1, rfl, Nat.le_refl _, by simp, fun j e he => ?_⟩
  cases j with
  | zero => simp at he; subst he; simp [S]
  | succ j => simp at he

/-- what stays below stays, where a row of one's own is added to -/
theorem adds_bel {w W W' : World} {B : Nat} {v v' : Value} {e : TypeId} {size n : Nat} {cs : List Value} (hbl : Below B w W) (hs : B ≤ W.heap.size) (ho : W.ownsRow B e size v n cs) (h : Adds W W' v v') : Below B w W' :=
  hbl.trans ⟨h.1.os, h.1.tape, h.1.output, h.1.size, fun k hk => h.1.block k (by omega) (fun e => by have := (ho.lt k e.symm).1; omega)⟩

end Go.Proofs.Ytbmnflldjkcgnab
