
/-
  What the program's own Ops (flip) answers at any steps that lie in memory; conditions: the list's and the texts' lengths.
-/
import Derived.Test.YtcdjemheokmglabOPNorm
import Derived.Test.YtcdjemheokmglabADoneOpen
import Derived.Test.YtcdjemheokmglabFPlain
import Derived.Test.YtcdjemheokmglabONorm
import Derived.Lib.SliceRun
namespace Go.Proofs.Ytcdjemheokmglab
open Go.RowKit Go.Proofs.Ytcdjemheokmglab.Ln Go.Proofs.Ytcdjemheokmglab.Ol

theorem fit_flp {l : List Oq} (h : Fit l) : Fit (flp l) := by
  intro x hx
  obtain ⟨y, hy, rfl⟩ := List.mem_map.1 hx
  exact h y hy

end Go.Proofs.Ytcdjemheokmglab

namespace Go.Proofs.Ytcdjemheokmglab
open Go.RowKit Go.Proofs.Ytcdjemheokmglab.Ln Go.Proofs.Ytcdjemheokmglab.Ol

/-- the kind that undoes a kind -/
def tk (z : Int) : Int := if z = 3 then 4 else if z = 4 then 3 else z
theorem fl_tk (x : Oq) : fl x = (tk x.1, x.2) := rfl
theorem cellsO_setK (l : List Oq) : ∀ (j : Nat) (x : Oq) (z : Int), l[j]? = some x → (cellsO l).set (j * 3) (Z z) = cellsO (l.set j (z, x.2)) := by
  induction l with
  | nil => intro j x z h; simp at h
  | cons y l ih =>
    intro j x z h
    cases j with
    | zero => simp at h; subst h; rfl
    | succ j =>
      have := ih j x z (by simpa using h)
      rw [show (j + 1) * 3 = j * 3 + 1 + 1 + 1 by omega]
      simp only [cellsO, List.set_cons_succ, this]
/-- the kind of a step of a row is turned -/
theorem owns_setK {W : World} {B g n cp j : Nat} {l : List Oq} {x : Oq} (z : Int) (h : W.ownsRow B 30 3 (.slice (some ⟨g, 0, none⟩) n cp) n (cellsO l)) (hx : l[j]? = some x) :
    (W.setCell ⟨g, j * 3, none⟩ (.int .i64 z)).ownsRow B 30 3 (.slice (some ⟨g, 0, none⟩) n cp) n (cellsO (l.set j (z, x.2))) := by
  rcases h.2 with ⟨e, _⟩ | ⟨g', cap', cur, hv, hB, hg, hc, hm, hs, ht⟩
  · cases e
  · cases hv
    refine ⟨by have := h.1; rw [cellsO_len] at this ⊢; simpa using this, Or.inr ⟨g, cp, cur.setIfInBounds (j * 3) (.int .i64 z), rfl, hB, ?_, hc, hm, by simpa using hs, ?_⟩⟩
    · simp [World.setCell, Array.getElem?_modify, hg]
    · rw [← cellsO_setK l j x z hx, ← ht, Array.toList_setIfInBounds, List.take_set]
/-- turned so far -/
def sofar (xs : List Oq) (k : Nat) : List Oq := flp (xs.take k) ++ xs.drop k
theorem sofar_at {xs : List Oq} {k : Nat} {x : Oq} (h : xs[k]? = some x) : (sofar xs k)[k]? = some x ∧ sofar xs (k + 1) = (sofar xs k).set k (tk x.1, x.2) := by
  obtain ⟨hk, he⟩ := List.getElem?_eq_some_iff.1 h
  have hlen : (flp (xs.take k)).length = k := by rw [flp_len, List.length_take, Nat.min_eq_left (by omega)]
  unfold sofar
  constructor
  · rw [List.getElem?_append_right (by omega), hlen, Nat.sub_self, List.getElem?_drop]; simpa using h
  · rw [List.set_append_right _ _ (by omega), hlen, Nat.sub_self, take_snoc h, flp_app, flp_one, fl_tk, List.drop_eq_getElem_cons hk, he]
    simp
theorem sofar_len (xs : List Oq) (k : Nat) : (sofar xs k).length = xs.length := by
  unfold sofar; rw [List.length_append, flp_len, List.length_take, List.length_drop]; omega
theorem sofar_end (xs : List Oq) (k : Nat) (h : xs.length ≤ k) : sofar xs k = flp xs := by
  unfold sofar; rw [List.take_of_length_le h, List.drop_eq_nil_of_le h, List.append_nil]
theorem fit_flp' {l : List Oq} (h : Fit l) : Fit (flp l) := by
  intro x hx
  obtain ⟨y, hy, rfl⟩ := List.mem_map.1 hx
  exact h y hy
theorem normL_flp (l : List Oq) : normL (flp l) = flN l := by unfold normL flN; rw [right_flp]

end Go.Proofs.Ytcdjemheokmglab
