
/-
  Steps in memory, and whether two lists of steps are one (the program's Same and the document's); lists of texts, and whether two are one; conditions: the lists' lengths.
-/
import Derived.Test.YtcdjemheokmglabLBase
import Derived.Test.YtcdjemheokmglabOPlain
import Derived.Laws.AppendOwnNone
import Derived.Deep.RegionHeld3
import Derived.Deep.AppendLies
import Derived.WalkSmall
import Derived.Sort.AtCall
namespace Go.Proofs.Ytcdjemheokmglab
open Go.RowKit Go.Proofs.Ytcdjemheokmglab.Ln Go.Proofs.Ytcdjemheokmglab.Ol

/-- a number as a value -/
abbrev Z (n : Int) : Value := .int .i64 n
/-- steps lie in memory -/
def OpsAt (w : World) (v : Value) (xs : List Oq) : Prop :=
  (xs = [] ∧ ∃ ao cap, v = .slice ao 0 cap ∧ (ao = none → cap = 0)) ∨ ∃ b o cap, v = .slice (some ⟨b, o, none⟩) xs.length cap ∧ xs.length ≤ cap ∧ b < w.heap.size ∧ ∀ (j : Nat) e, xs[j]? = some e → w.cell? ⟨b, o + j * 3, none⟩ = some (Z e.1) ∧ w.cell? ⟨b, o + j * 3 + 1, none⟩ = some (Z e.2.1) ∧ w.cell? ⟨b, o + j * 3 + 2, none⟩ = some (S e.2.2)
theorem OpsAt.nil (w : World) (ao : Option Addr) (cap : Nat) (h : ao = none → cap = 0 := by (intro h; first | rfl | cases h)) : OpsAt w (.slice ao 0 cap) [] := Or.inl ⟨rfl, ao, cap, rfl, h⟩
theorem OpsAt.later {w w' : World} {v : Value} {xs : List Oq} (h : OpsAt w v xs) (hb : Below w.heap.size w w') : OpsAt w' v xs := by
  rcases h with h | ⟨b, o, cap, h1, h2, h3, h4⟩
  · exact Or.inl h
  · refine Or.inr ⟨b, o, cap, h1, h2, Nat.lt_of_lt_of_le h3 hb.size, fun j x hx => ?_⟩
    rw [hb.cell (p := ⟨b, o + j * 3, none⟩) h3, hb.cell (p := ⟨b, o + j * 3 + 1, none⟩) h3, hb.cell (p := ⟨b, o + j * 3 + 2, none⟩) h3]
    exact h4 j x hx
theorem OpsAt.shape {w : World} {v : Value} {xs : List Oq} (h : OpsAt w v xs) : ∃ ao cap, v = .slice ao xs.length cap := by
  rcases h with ⟨rfl, ao, cap, rfl, _⟩ | ⟨b, o, cap, rfl, _⟩
  · exact ⟨ao, cap, rfl⟩
  · exact ⟨_, cap, rfl⟩
theorem OpsAt.cells {w : World} {v : Value} {xs : List Oq} (h : OpsAt w v xs) (hne : xs ≠ []) : ∃ b o cap, v = .slice (some ⟨b, o, none⟩) xs.length cap ∧ xs.length ≤ cap ∧ b < w.heap.size ∧ ∀ (j : Nat) e, xs[j]? = some e → w.cell? ⟨b, o + j * 3, none⟩ = some (Z e.1) ∧ w.cell? ⟨b, o + j * 3 + 1, none⟩ = some (Z e.2.1) ∧ w.cell? ⟨b, o + j * 3 + 2, none⟩ = some (S e.2.2) := by
  rcases h with ⟨rfl, _⟩ | h
  · exact absurd rfl hne
  · exact h
/-- the cells of steps -/
def cellsO : List Oq → List Value
  | [] => []
  | e :: l => Z e.1 :: Z e.2.1 :: S e.2.2 :: cellsO l
theorem cellsO_len (l : List Oq) : (cellsO l).length = l.length * 3 := by
  induction l with
  | nil => rfl
  | cons r l ih => simp [cellsO, ih]; omega
theorem cellsO_app (a b : List Oq) : cellsO (a ++ b) = cellsO a ++ cellsO b := by
  induction a with
  | nil => rfl
  | cons r l ih => simp [cellsO, ih]
theorem cellsO_at (l : List Oq) : ∀ (j : Nat) e, l[j]? = some e → (cellsO l)[j * 3]? = some (Z e.1) ∧ (cellsO l)[j * 3 + 1]? = some (Z e.2.1) ∧ (cellsO l)[j * 3 + 2]? = some (S e.2.2) := by
  induction l with
  | nil => intro j r h; simp at h
  | cons x l ih =>
    intro j r h
    cases j with
    | zero => simp at h; subst h; exact ⟨rfl, rfl, rfl⟩
    | succ j =>
      have := ih j r (by simpa using h)
      rw [show (j + 1) * 3 = j * 3 + 1 + 1 + 1 by omega, show j * 3 + 1 + 1 + 1 + 1 = (j * 3 + 1) + 1 + 1 + 1 by omega, show j * 3 + 1 + 1 + 1 + 2 = (j * 3 + 2) + 1 + 1 + 1 by omega]
      simp only [cellsO, List.getElem?_cons_succ]
      exact this
theorem cellsO_of (l : List Oq) (P : Nat → Value → Prop) (h : ∀ (j : Nat) e, l[j]? = some e → P (j * 3) (Z e.1) ∧ P (j * 3 + 1) (Z e.2.1) ∧ P (j * 3 + 2) (S e.2.2)) : ∀ (j : Nat) u, (cellsO l)[j]? = some u → P j u := by
  intro j u hu
  have hj : j < l.length * 3 := by
    rw [← cellsO_len]; exact (List.getElem?_eq_some_iff.1 hu).1
  obtain ⟨e, he⟩ : ∃ e, l[j / 3]? = some e := ⟨l[j / 3]'(by omega), List.getElem?_eq_getElem _⟩
  have h1 := cellsO_at l (j / 3) e he
  have h2 := h (j / 3) e he
  by_cases hp : j % 3 = 0
  · have e1 : j / 3 * 3 = j := by omega
    rw [e1] at h1 h2
    rw [h1.1] at hu; cases hu; exact h2.1
  · by_cases hq : j % 3 = 1
    · have e1 : j / 3 * 3 + 1 = j := by omega
      rw [e1] at h1 h2
      rw [h1.2.1] at hu; cases hu; exact h2.2.1
    · have e1 : j / 3 * 3 + 2 = j := by omega
      rw [e1] at h1 h2
      rw [h1.2.2] at hu; cases hu; exact h2.2.2
theorem cellsO_one (l : List Oq) : ∀ u, u ∈ cellsO l → u.oneCell' = true := by
  induction l with
  | nil => intro u hu; cases hu
  | cons e l ih =>
    intro u hu
    simp only [cellsO, List.mem_cons] at hu
    rcases hu with rfl | rfl | rfl | hu
    · rfl
    · rfl
    · rfl
    · exact ih u hu
theorem OpsAt.of_owns {w : World} {B n : Nat} {v : Value} {xs : List Oq} (h : w.ownsRow B 30 3 v n (cellsO xs)) : OpsAt w v xs := by
  have hn : xs.length = n := by have := h.1; rw [cellsO_len] at this; omega
  rcases h.2 with ⟨rfl, h0⟩ | ⟨g, cap, cur, hv, hB, hg, hc, hm, hs, ht⟩
  · exact Or.inl ⟨List.eq_nil_of_length_eq_zero (by omega), none, 0, rfl, fun _ => rfl⟩
  · refine Or.inr ⟨g, 0, cap, by rw [hn]; exact hv, by omega, (Array.getElem?_eq_some_iff.1 hg).1, fun j r hr => ?_⟩
    have ⟨c1, c2, c3⟩ := cellsO_at xs j r hr
    have d1 := h.cells (g := g) (by rw [hv]; rfl) (j * 3) _ c1
    have d2 := h.cells (g := g) (by rw [hv]; rfl) (j * 3 + 1) _ c2
    have d3 := h.cells (g := g) (by rw [hv]; rfl) (j * 3 + 2) _ c3
    rw [addr_add] at d1 d2 d3
    exact ⟨d1, by rw [Nat.add_assoc]; exact d2, by rw [Nat.add_assoc]; exact d3⟩
theorem owns_later {w w' : World} {B n size : Nat} {v : Value} {cs : List Value} {e : TypeId} (h : w.ownsRow B e size v n cs) (hb : Below w.heap.size w w') : w'.ownsRow B e size v n cs := by
  refine ⟨h.1, ?_⟩
  rcases h.2 with h | ⟨g, cap, cur, hv, hB, hg, hc⟩
  · exact Or.inl h
  · exact Or.inr ⟨g, cap, cur, hv, hB, by rw [hb.block g (Array.getElem?_eq_some_iff.1 hg).1]; exact hg, hc⟩
theorem Try.infoOp : (Try.prog.info? 30).map (fun i => (i.zero, i.size, i.bytes)) = some (some (.agg #[.int .i64 0, .int .i64 0, .string ⟨#[]⟩]), 3, 32) := by kernel_rfl
theorem Try.infoStr : (Try.prog.info? 9).map (fun i => (i.zero, i.size, i.bytes)) = some (some (.string ⟨#[]⟩), 1, 16) := by kernel_rfl

theorem op_some {xs : List Oq} {k : Nat} (h : k < xs.length) : ∃ a n t, xs[k]? = some (a, n, t) := ⟨xs[k].1, xs[k].2.1, xs[k].2.2, List.getElem?_eq_getElem h⟩
theorem take_snoc {α : Type} {xs : List α} {k : Nat} {e : α} (h : xs[k]? = some e) : xs.take (k + 1) = xs.take k ++ [e] := by
  rw [List.take_add_one, h]; rfl
theorem cut_at {α : Type} {xs : List α} {k : Nat} {e : α} (hk : xs[k]? = some e) : xs = xs.take k ++ e :: xs.drop (k + 1) := by
  obtain ⟨hh, h⟩ := List.getElem?_eq_some_iff.1 hk
  rw [← h, ← List.drop_eq_getElem_cons hh, List.take_append_drop]
theorem same_of {α : Type} (xs ys : List α) (hl : xs.length = ys.length) (h : ∀ j, j < xs.length → xs[j]? = ys[j]?) : xs = ys := by
  apply List.ext_getElem?
  intro j
  by_cases hj : j < xs.length
  · exact h j hj
  · rw [List.getElem?_eq_none (by omega), List.getElem?_eq_none (by omega)]
/-- the three cells of a step in a later world -/
theorem three_later {w wr : World} {b o k : Nat} {x : Oq} (hb : b < w.heap.size) (hbl : Below w.heap.size w wr) (hc : w.cell? ⟨b, o + k * 3, none⟩ = some (Z x.1) ∧ w.cell? ⟨b, o + k * 3 + 1, none⟩ = some (Z x.2.1) ∧ w.cell? ⟨b, o + k * 3 + 2, none⟩ = some (S x.2.2)) :
    wr.cell? ⟨b, o + k * 3, none⟩ = some (.int .i64 x.1) ∧ wr.cell? ⟨b, o + k * 3 + 1, none⟩ = some (.int .i64 x.2.1) ∧ wr.cell? ⟨b, o + k * 3 + 2, none⟩ = some (.string ⟨x.2.2.toArray⟩) :=
  ⟨(hbl.cell (p := ⟨b, o + k * 3, none⟩) hb).trans hc.1, (hbl.cell (p := ⟨b, o + k * 3 + 1, none⟩) hb).trans hc.2.1, (hbl.cell (p := ⟨b, o + k * 3 + 2, none⟩) hb).trans hc.2.2⟩

end Go.Proofs.Ytcdjemheokmglab
