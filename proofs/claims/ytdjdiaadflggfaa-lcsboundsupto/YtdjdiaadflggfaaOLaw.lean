
/-
  What the law's own Few, Known and alive answer at any steps or texts that lie in memory; conditions: the lists' and texts' lengths.
-/
import Derived.Test.YtdjdiaadflggfaaONorm
import Derived.Test.YtdjdiaadflggfaaORow
import Derived.Test.YtdjdiaadflggfaaOPRight
namespace Go.Proofs.Ytdjdiaadflggfaa
open Go.RowKit Go.Proofs.Ytdjdiaadflggfaa.Ln Go.Proofs.Ytdjdiaadflggfaa.Ol

theorem kn_len (but : Int) (l : List Oq) : (kn but l).length ≤ l.length := by
  unfold kn; rw [List.length_map]; exact List.length_filter_le _ _
theorem kn_on {but : Int} {xs : List Oq} {k : Nat} {x : Oq} (h : xs[k]? = some x) (h1 : ¬ x.1 = 1) (h2 : ¬ x.1 = but) : kn but (xs.take (k + 1)) = kn but (xs.take k) ++ [x.2.2] := by
  rw [take_snoc h, kn_app]; simp [kn, h1, h2]
theorem kn_skip {but : Int} {xs : List Oq} {k : Nat} {x : Oq} (h : xs[k]? = some x) (h1 : x.1 = 1 ∨ x.1 = but) : kn but (xs.take (k + 1)) = kn but (xs.take k) := by
  rw [take_snoc h, kn_app, kn_off but [x] (by simpa using h1), List.append_nil]
/-- steps that are written down -/
theorem ops_lit {W : World} {b n : Nat} {xs : List Oq} {cs : Array Value} (h : W.heap[b]? = some (.cells cs 31 (0, 0))) (hc : cs.toList = cellsO xs) (hn : n = xs.length) : OpsAt W (.slice (some ⟨b, 0, none⟩) n n) xs := by
  subst hn
  refine Or.inr ⟨b, 0, _, rfl, Nat.le_refl _, (Array.getElem?_eq_some_iff.1 h).1, fun j e he => ?_⟩
  obtain ⟨c1, c2, c3⟩ := cellsO_at xs j e he
  rw [← hc] at c1 c2 c3
  refine ⟨?_, ?_, ?_⟩
  · unfold World.cell?; rw [h]; simpa using c1
  · unfold World.cell?; rw [h]; simpa using c2
  · unfold World.cell?; rw [h]; simpa using c3
/-- the steps that the document names -/
def L0 : List Oq := [(1, 3, []), (4, 0, [97, 10])]
theorem fit_of {xs : List Oq} (h : xs.all (fun x => decide (x.2.2.length ≤ 1000)) = true) : Fit xs := fun x hx => by
  have := List.all_eq_true.1 h x hx
  simp at this
  omega

end Go.Proofs.Ytdjdiaadflggfaa
