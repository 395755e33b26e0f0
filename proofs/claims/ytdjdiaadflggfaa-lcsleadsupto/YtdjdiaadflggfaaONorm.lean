
/-
  What the program's Norm answers at any steps that lie in memory; conditions: the list's and the texts' lengths.
-/
import Derived.Test.YtdjdiaadflggfaaOStay
namespace Go.Proofs.Ytdjdiaadflggfaa
open Go.RowKit Go.Proofs.Ytdjdiaadflggfaa.Ln Go.Proofs.Ytdjdiaadflggfaa.Ol

/-- two rows of one's own -/
structure NK (w : World) (A C : List Oq) (av cv : Value) (W : World) : Prop where
  bel : Below w.heap.size w W
  ao : W.ownsRow w.heap.size 31 3 av A.length (cellsO A)
  co : W.ownsRow w.heap.size 31 3 cv C.length (cellsO C)
  ne : ∀ k, av.ownBlock = some k → cv.ownBlock ≠ some k
theorem NK.later {w : World} {A C : List Oq} {av cv : Value} {W W' : World} (h : NK w A C av cv W) (hb : Below W.heap.size W W') : NK w A C av cv W' :=
  ⟨h.bel.trans (hb.mono h.bel.size), owns_later h.ao hb, owns_later h.co hb, h.ne⟩
theorem adds_below {w W W' : World} {v v' : Value} (hB : w.heap.size ≤ W.heap.size) (h : Adds W W' v v') (hv : ∀ k, v.ownBlock = some k → w.heap.size ≤ k) : Below w.heap.size W W' :=
  ⟨h.1.os, h.1.tape, h.1.output, h.1.size, fun k hk => h.1.block k (by omega) (fun e => by have := hv k e.symm; omega)⟩
/-- the first row is turned -/
theorem NK.first {w : World} {A C A' : List Oq} {av cv av' : Value} {W W' : World} (h : NK w A C av cv W) (ha : Adds W W' av av') (ho : W'.ownsRow w.heap.size 31 3 av' A'.length (cellsO A')) : NK w A' C av' cv W' := by
  refine ⟨h.bel.trans (adds_below h.bel.size ha (fun k e => (h.ao.lt k e).1)), ho, h.co.kept ha.1 ?_, ?_⟩
  · cases hc : cv.ownBlock with
    | none => exact Or.inl rfl
    | some k => exact Or.inr (fun e => h.ne k e.symm hc)
  · intro k e hc
    rcases ha.2 with e2 | ⟨k2, e2, hk2⟩
    · exact h.ne k (e2 ▸ e) hc
    · rw [e2] at e; cases e
      have := (h.co.lt _ hc).2
      omega
/-- the second row is turned -/
theorem NK.second {w : World} {A C C' : List Oq} {av cv cv' : Value} {W W' : World} (h : NK w A C av cv W) (ha : Adds W W' cv cv') (ho : W'.ownsRow w.heap.size 31 3 cv' C'.length (cellsO C')) : NK w A C' av cv' W' := by
  refine ⟨h.bel.trans (adds_below h.bel.size ha (fun k e => (h.co.lt k e).1)), h.ao.kept ha.1 ?_, ho, ?_⟩
  · cases hc : av.ownBlock with
    | none => exact Or.inl rfl
    | some k => exact Or.inr (fun e => h.ne k hc e.symm)
  · intro k e hc
    rcases ha.2 with e2 | ⟨k2, e2, hk2⟩
    · exact h.ne k e (e2 ▸ hc)
    · rw [e2] at hc; cases hc
      have := (h.ao.lt _ e).2
      omega
/-- a step's own variable beside two rows -/
structure KN (w : World) (A C : List Oq) (av cv : Value) (p : Nat) (x1 x2 : Int) (x3 : Tx) (W : World) : Prop where
  nk : NK w A C av cv W
  lt : p < W.heap.size
  c1 : W.cell? ⟨p, 0, none⟩ = some (.int .i64 x1)
  c2 : W.cell? ⟨p, 1, none⟩ = some (.int .i64 x2)
  c3 : W.cell? ⟨p, 2, none⟩ = some (.string ⟨x3.toArray⟩)
  na : some p ≠ av.ownBlock
  nc : some p ≠ cv.ownBlock
theorem KN.later {w : World} {A C : List Oq} {av cv : Value} {p : Nat} {x1 x2 : Int} {x3 : Tx} {W W' : World} (h : KN w A C av cv p x1 x2 x3 W) (hb : Below W.heap.size W W') : KN w A C av cv p x1 x2 x3 W' :=
  ⟨h.nk.later hb, Nat.lt_of_lt_of_le h.lt hb.size, (hb.cell (p := ⟨p, 0, none⟩) h.lt).trans h.c1, (hb.cell (p := ⟨p, 1, none⟩) h.lt).trans h.c2, (hb.cell (p := ⟨p, 2, none⟩) h.lt).trans h.c3, h.na, h.nc⟩
theorem KN.drew {w : World} {A C : List Oq} {av cv : Value} {p : Nat} {x1 x2 : Int} {x3 : Tx} {W : World} (h : KN w A C av cv p x1 x2 x3 W) : KN w A C av cv p x1 x2 x3 W.drew := h.later (Below.refl _ W).drew
theorem KN.alloc {w : World} {A C : List Oq} {av cv : Value} {p : Nat} {x1 x2 : Int} {x3 : Tx} {W : World} (h : KN w A C av cv p x1 x2 x3 W) (o : Obj) : KN w A C av cv p x1 x2 x3 (W.alloc o) := h.later ((Below.refl _ W).alloc (Nat.le_refl _) o)
theorem KN.first {w : World} {A C A' : List Oq} {av cv av' : Value} {p : Nat} {x1 x2 : Int} {x3 : Tx} {W W' : World} (h : KN w A C av cv p x1 x2 x3 W) (ha : Adds W W' av av') (ho : W'.ownsRow w.heap.size 31 3 av' A'.length (cellsO A')) : KN w A' C av' cv p x1 x2 x3 W' := by
  refine ⟨h.nk.first ha ho, Nat.lt_of_lt_of_le h.lt ha.1.size, (ha.1.cell_far ⟨p, 0, none⟩ h.lt h.na).trans h.c1, (ha.1.cell_far ⟨p, 1, none⟩ h.lt h.na).trans h.c2, (ha.1.cell_far ⟨p, 2, none⟩ h.lt h.na).trans h.c3, fun e => ?_, h.nc⟩
  rcases ha.2 with e2 | ⟨k2, e2, hk2⟩
  · exact h.na (e.trans e2)
  · rw [e2] at e; cases e
    have := h.lt
    omega
/-- the second row is cut to nothing -/
theorem NK.cut {w : World} {A C : List Oq} {av : Value} {g n cap : Nat} {W : World} (h : NK w A C av (.slice (some ⟨g, 0, none⟩) n cap) W) (hn : n = C.length) : NK w A [] av (.slice (some ⟨g, 0, none⟩) 0 cap) W := by
  subst hn
  exact ⟨h.bel, h.ao, owns_zero h.co, fun k e => h.ne k e⟩
theorem nfo_len (l : List Oq) : (nfo l).1.length + (nfo l).2.length ≤ l.length := by
  refine snoc_ind (P := fun l => (nfo l).1.length + (nfo l).2.length ≤ l.length) (Nat.le_refl _) ?_ l
  intro l x ih
  rw [nfo_snoc, List.length_append]
  unfold nst
  split
  · simp only [List.length_append, List.length_cons, List.length_nil]; omega
  · split
    · simp only [List.length_append, List.length_cons, List.length_nil]; omega
    · rcases stay_cases ((nfo l).1 ++ (nfo l).2) x with ⟨e, _⟩ | ⟨o, y, e1, _, _, e⟩
      · simp only [e, List.length_append, List.length_cons, List.length_nil]; omega
      · have := congrArg List.length e1
        simp only [e, List.length_append, List.length_cons, List.length_nil] at this ⊢; omega
theorem nfo_take {xs : List Oq} {k : Nat} {x : Oq} (h : xs[k]? = some x) : nfo (xs.take (k + 1)) = nst (nfo (xs.take k)) x := by
  rw [take_snoc h, nfo_snoc]
/-- what steps in order are -/
def normL (xs : List Oq) : List Oq := if right xs = true then nrm xs else []
/-- a Skip behind a Skip fits -/
theorem fits_at {B : Int} {xs : List Oq} {k : Nat} {x : Oq} (hal : ∀ y ∈ xs, al0 y) (ht : tot 3 xs ≤ B) (h : xs[k]? = some x) : x.1 = 1 → ∀ y, ((nfo (xs.take k)).1 ++ (nfo (xs.take k)).2).getLast? = some y → y.1 = 1 → 0 ≤ y.2.1 ∧ 0 ≤ x.2.1 ∧ y.2.1 + x.2.1 ≤ B := by
  intro h1 y hy h2
  obtain ⟨o, ho⟩ := List.getLast?_eq_some_iff.1 hy
  have := merge_fits hal ht (cut_at h) h1 ho h2
  omega

end Go.Proofs.Ytdjdiaadflggfaa
