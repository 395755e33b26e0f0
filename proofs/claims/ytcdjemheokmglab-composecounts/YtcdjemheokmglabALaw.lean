
/-
  What the law's own Short and alive answer; conditions: the list's length, and that of its texts together.
-/
import Derived.Test.YtcdjemheokmglabADo
import Derived.Test.YtcdjemheokmglabAPDo
import Derived.Test.YtcdjemheokmglabOLaw
namespace Go.Proofs.Ytcdjemheokmglab
open Go.RowKit Go.Proofs.Ytcdjemheokmglab.Ln Go.Proofs.Ytcdjemheokmglab.Ol

theorem wr64 {z : Int} (h : -9223372036854775808 ≤ z) (h2 : z ≤ 9223372036854775807) : wrap64 z = z := by unfold wrap64; omega
theorem wri64 {z : Int} (h : -9223372036854775808 ≤ z) (h2 : z ≤ 9223372036854775807) : IntKind.i64.wrap z = z := by rw [IntKind.wrap_i64]; omega
theorem adds_nil {w W : World} {v' : Value} (h : Adds w W (.slice none 0 0) v') : Below w.heap.size w W :=
  ⟨h.1.os, h.1.tape, h.1.output, h.1.size, fun j hj => h.1.block j hj (fun e => by cases e)⟩
theorem fitT_flat {xs : List Tx} (h : xs.flatten.length ≤ 1048576) : FitT xs := fun x hx => by
  obtain ⟨k, hk, rfl⟩ := List.mem_iff_getElem.1 hx
  have h1 := flatten_take_le xs (k + 1)
  rw [flatten_take xs k _ (List.getElem?_eq_getElem hk), List.length_append] at h1
  omega
theorem fit_nrm {xs : List Oq} (h : Fit xs) : Fit (nrm xs) := by
  refine snoc_ind (P := fun l => Fit l → Fit (nrm l)) (fun _ => by intro x hx; cases hx) ?_ xs h
  intro l x ih hf y hy
  have hl := ih (fun z hz => hf z (by simp [hz]))
  have hx := hf x (by simp)
  unfold nrm at hl hy
  rw [nfo_snoc] at hy
  generalize nfo l = s at hl hy
  obtain ⟨a, c⟩ := s
  simp only at hl hy
  unfold nst at hy
  split at hy
  · simp only [List.append_assoc, List.mem_append, List.mem_cons, List.not_mem_nil, or_false] at hy
    rcases hy with h | rfl | h
    · exact hl y (by simp [h])
    · exact hx
    · exact hl y (by simp [h])
  · split at hy
    · simp only [List.mem_append, List.mem_cons, List.not_mem_nil, or_false] at hy
      rcases hy with h | h | rfl
      · exact hl y (by simp [h])
      · exact hl y (by simp [h])
      · exact hx
    · simp only [List.append_nil] at hy
      rcases stay_cases (a ++ c) x with ⟨e, _⟩ | ⟨o, z, e1, _, _, e⟩
      · rw [e] at hy
        rcases List.mem_append.1 hy with h | h
        · exact hl y h
        · simp at h; subst h; exact hx
      · rw [e] at hy
        rcases List.mem_append.1 hy with h | h
        · exact hl y (by rw [e1]; simp [h])
        · simp at h; subst h
          exact hl z (by rw [e1]; simp)

/-- texts that are written down -/
theorem row_lit {W : World} {b n : Nat} {xs : List Tx} {cs : Array Value} (h : W.heap[b]? = some (.cells cs 9 (0, 0))) (hc : cs.toList = xs.map S) (hn : n = xs.length) : RowAt W (.slice (some ⟨b, 0, none⟩) n n) xs := by
  subst hn
  refine Or.inr ⟨b, 0, _, rfl, Nat.le_refl _, (Array.getElem?_eq_some_iff.1 h).1, fun j e he => ?_⟩
  unfold World.cell?
  rw [h]
  have : cs.toList[j]? = some (S e) := by rw [hc]; simp [he]
  simpa using this
theorem fitT_of {xs : List Tx} (h : xs.all (fun x => decide (x.length ≤ 1000)) = true) : FitT xs := fun x hx => by
  have := List.all_eq_true.1 h x hx
  simp at this
  omega
def A9 : List Tx := [[97, 10]]
def L9 : List Oq := [(2, 0, [97, 10]), (4, 0, [98, 10])]

end Go.Proofs.Ytcdjemheokmglab
