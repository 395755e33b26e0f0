
/-
  What the document's own Then and Rest answer at any steps that lie in memory; conditions: the lists' and texts' lengths.
-/
import Derived.Test.YtcdjemheokmglabCPWalk
import Derived.Test.YtcdjemheokmglabOPNorm
import Derived.Test.YtcdjemheokmglabOFacts
namespace Go.Proofs.Ytcdjemheokmglab
open Go.RowKit Go.Proofs.Ytcdjemheokmglab.Ln Go.Proofs.Ytcdjemheokmglab.Ol

theorem wk_len (f : Nat) : ∀ (e : Bool) (p q : List Oq) (r : List (Oq × Int) × Bool), Ok p → Ok q → wk f e p q = some r → r.1.length ≤ p.length + q.length := by
  induction f with
  | zero => intro e p q r _ _ h; cases h
  | succ f ih =>
    intro e p q r op oq h
    have hless := onn_less op oq
    rw [wk] at h
    split at h
    · cases h; simp
    · rename_i hne
      split at h
      · rename_i h3
        obtain ⟨r', h1, rfl⟩ := Option.map_eq_some_iff.1 h
        have := ih e _ _ r' op.tail oq h1
        cases p with
        | nil => simp [hdO] at h3
        | cons x p => simp at this ⊢; omega
      · split at h
        · rename_i h4
          obtain ⟨r', h1, rfl⟩ := Option.map_eq_some_iff.1 h
          have := ih e _ _ r' op oq.tail h1
          cases q with
          | nil => simp [hdO] at h4
          | cons x q => simp at this ⊢; omega
        · split at h
          · cases h
          · split at h
            · cases h
            · obtain ⟨r', h1, rfl⟩ := Option.map_eq_some_iff.1 h
              have hN := wkN_pos op.hd.1 oq.hd.1
              have := ih _ _ _ r' (op.onn _ hN) (oq.onn _ hN) h1
              have h2 := hless hne
              have h3 := wkO_len (hdO p) (hdO q) (wkN (hdO p) (hdO q))
              rw [List.length_append]
              omega
theorem fit_hd {l : List Oq} (h : Fit l) : (hdO l).2.2.length ≤ 140737488355328 := by
  cases l with
  | nil => simp [hdO]
  | cons x l => exact h x (by simp)
theorem fit_tl {l : List Oq} (h : Fit l) : Fit l.tail := fun x hx => h x (List.mem_of_mem_tail hx)
theorem wkO_fit {x y : Oq} {n : Int} (hx : x.2.2.length ≤ 140737488355328) (hy : y.2.2.length ≤ 140737488355328) : ∀ z ∈ wkO x y n, z.1.2.2.length ≤ 140737488355328 := by
  unfold wkO
  intro z hz
  split at hz
  · simp at hz; subst hz; simp
  · split at hz
    · cases hz
    · split at hz
      · simp at hz; subst hz; exact hx
      · split at hz
        · simp at hz; subst hz; exact hy
        · split at hz
          · simp at hz; subst hz; exact hy
          · simp at hz; subst hz; exact hx
theorem wk_fit (f : Nat) : ∀ (e : Bool) (p q : List Oq) (r : List (Oq × Int) × Bool), Fit p → Fit q → wk f e p q = some r → ∀ z ∈ r.1, z.1.2.2.length ≤ 140737488355328 := by
  induction f with
  | zero => intro e p q r _ _ h; cases h
  | succ f ih =>
    intro e p q r fp fq h
    rw [wk] at h
    split at h
    · cases h; intro z hz; cases hz
    · split at h
      · obtain ⟨r', h1, rfl⟩ := Option.map_eq_some_iff.1 h
        intro z hz
        rcases List.mem_cons.1 hz with rfl | hz
        · exact fit_hd fp
        · exact ih e _ _ r' (fit_tl fp) fq h1 z hz
      · split at h
        · obtain ⟨r', h1, rfl⟩ := Option.map_eq_some_iff.1 h
          intro z hz
          rcases List.mem_cons.1 hz with rfl | hz
          · exact fit_hd fq
          · exact ih e _ _ r' fp (fit_tl fq) h1 z hz
        · split at h
          · cases h
          · split at h
            · cases h
            · obtain ⟨r', h1, rfl⟩ := Option.map_eq_some_iff.1 h
              intro z hz
              rcases List.mem_append.1 hz with hz | hz
              · exact wkO_fit (fit_hd fp) (fit_hd fq) z hz
              · exact ih _ _ _ r' (fit_onn fp) (fit_onn fq) h1 z hz
theorem byO_fit {f : Nat} {e : Bool} {p q : List Oq} {r : List (Oq × Int) × Bool} (fp : Fit p) (fq : Fit q) (h : wk f e p q = some r) : Fit (byO r) := by
  intro x hx
  obtain ⟨z, hz, rfl⟩ := List.mem_map.1 hx
  exact wk_fit f e p q r fp fq h z hz
theorem nrm_fit {xs : List Oq} (h : Fit xs) : Fit (nrm xs) := fun y hy => by
  obtain ⟨x, hx, e⟩ := nrm_text xs y hy
  rw [e]; exact h x hx
theorem grown_nil {w W : World} {v' : Value} (h : Adds w W (.slice none 0 0) v') : Below w.heap.size w W := ⟨h.1.os, h.1.tape, h.1.output, h.1.size, fun j hj => h.1.block j hj (fun e => by cases e)⟩
theorem right_len {p : List Oq} (h : right p = true) : p.length ≤ 4294967296 := by
  have h1 := len_tot (right_al0 h)
  obtain ⟨_, _, _, h4, h5⟩ := right_parts h
  omega

/-- steps without a Skip at the end -/
def rst (l : List Oq) : List Oq := (l.reverse.dropWhile fun x => x.1 == 1).reverse
theorem rst_skip {l : List Oq} {k : Nat} {x : Oq} (h : l[k]? = some x) (h1 : x.1 = 1) : rst (l.take (k + 1)) = rst (l.take k) := by
  unfold rst; rw [take_snoc h]; simp [h1]
theorem rst_not {l : List Oq} {k : Nat} {x : Oq} (h : l[k]? = some x) (h1 : ¬ x.1 = 1) : rst (l.take (k + 1)) = l.take (k + 1) := by
  unfold rst; rw [take_snoc h]; simp [h1]

end Go.Proofs.Ytcdjemheokmglab
