/-
  Nodes in memory, the reader's block, and what a call of a reader leaves as it was; no conditions.
-/
import Derived.Test.YtjeloflfhofdlaaSRead
import Derived.Test.YtjeloflfhofdlaaNum
import Derived.Maps.AppendAt
import Derived.Deep.AppendLies
namespace Go.Proofs.Ytjeloflfhofdlaa
open Go.RowKit Go.Proofs.Ytjeloflfhofdlaa.Gl

/-- a node as a value -/
def nodeV (k : Int) (f : Bs) (kv : Value) (lo hi : Int) : Value :=
  .agg #[.int .i64 k, .int .u64 (word f 0), .int .u64 (word f 1), .int .u64 (word f 2), .int .u64 (word f 3), kv, .int .i64 lo, .int .i64 hi]
def zeroV : Value := .agg #[.int .i64 0, .int .u64 0, .int .u64 0, .int .u64 0, .int .u64 0, .slice none 0 0, .int .i64 0, .int .i64 0]
/-- eight cells of a block are a node's -/
def NodeCells (w : World) (b o : Nat) (v : Value) : Prop :=
  ∃ c0 c1 c2 c3 c4 c5 c6 c7, v = .agg #[c0, c1, c2, c3, c4, c5, c6, c7] ∧ w.cell? ⟨b, o, none⟩ = some c0 ∧ w.cell? ⟨b, o + 1, none⟩ = some c1 ∧ w.cell? ⟨b, o + 2, none⟩ = some c2 ∧ w.cell? ⟨b, o + 3, none⟩ = some c3 ∧ w.cell? ⟨b, o + 4, none⟩ = some c4 ∧ w.cell? ⟨b, o + 5, none⟩ = some c5 ∧ w.cell? ⟨b, o + 6, none⟩ = some c6 ∧ w.cell? ⟨b, o + 7, none⟩ = some c7
/-- a node lies in memory, in blocks of which A holds -/
inductive NodeAt (w : World) (A : Nat → Prop) : Value → Nd → Prop
  | mk (k : Int) (f : Bs) (kids : List Nd) (lo hi : Int) (a : Option Addr) (cap : Nat) (vs : List Value) (hn : vs.length = kids.length) (hcap : kids.length ≤ cap)
    (hcells : kids ≠ [] → ∃ b o, a = some ⟨b, o, none⟩ ∧ A b ∧ ∀ (j : Nat) v, vs[j]? = some v → NodeCells w b (o + j * 8) v)
    (hkids : ∀ (j : Nat) v d, vs[j]? = some v → kids[j]? = some d → NodeAt w A v d) : NodeAt w A (nodeV k f (.slice a kids.length cap) lo hi) (.mk k f kids lo hi)
/-- a list of nodes lies in memory -/
def KidsAt (w : World) (A : Nat → Prop) (kv : Value) (kids : List Nd) : Prop :=
  ∃ (a : Option Addr) (cap : Nat) (vs : List Value), kv = .slice a kids.length cap ∧ vs.length = kids.length ∧ kids.length ≤ cap ∧ (kids ≠ [] → ∃ b o, a = some ⟨b, o, none⟩ ∧ A b ∧ ∀ (j : Nat) v, vs[j]? = some v → NodeCells w b (o + j * 8) v) ∧ ∀ (j : Nat) v d, vs[j]? = some v → kids[j]? = some d → NodeAt w A v d
theorem NodeAt.open {w : World} {A : Nat → Prop} {v : Value} {k : Int} {f : Bs} {kids : List Nd} {lo hi : Int} (h : NodeAt w A v (.mk k f kids lo hi)) : ∃ kv, v = nodeV k f kv lo hi ∧ KidsAt w A kv kids := by
  cases h with
  | mk _ _ _ _ _ a cap vs hn hcap hcells hkids => exact ⟨_, rfl, _, _, _, rfl, hn, hcap, hcells, hkids⟩
theorem KidsAt.shut {w : World} {A : Nat → Prop} {kv : Value} {kids : List Nd} (h : KidsAt w A kv kids) (k : Int) (f : Bs) (lo hi : Int) : NodeAt w A (nodeV k f kv lo hi) (.mk k f kids lo hi) := by
  obtain ⟨a, cap, vs, rfl, hn, hcap, hcells, hkids⟩ := h
  exact .mk k f kids lo hi a cap vs hn hcap hcells hkids
theorem KidsAt.nil (w : World) (A : Nat → Prop) : KidsAt w A (.slice none 0 0) [] :=
  ⟨none, 0, [], rfl, rfl, Nat.le_refl _, fun h => absurd rfl h, fun j v d h => by simp at h⟩
theorem NodeCells.keep {w w' : World} {b o : Nat} {v : Value} (h : NodeCells w b o v) (hb : w'.heap[b]? = w.heap[b]?) : NodeCells w' b o v := by
  obtain ⟨c0, c1, c2, c3, c4, c5, c6, c7, hv, h0, h1, h2, h3, h4, h5, h6, h7⟩ := h
  exact ⟨c0, c1, c2, c3, c4, c5, c6, c7, hv, (World.cell?_of_block (a := ⟨b, o, none⟩) hb).trans h0, (World.cell?_of_block (a := ⟨b, o + 1, none⟩) hb).trans h1, (World.cell?_of_block (a := ⟨b, o + 2, none⟩) hb).trans h2, (World.cell?_of_block (a := ⟨b, o + 3, none⟩) hb).trans h3, (World.cell?_of_block (a := ⟨b, o + 4, none⟩) hb).trans h4, (World.cell?_of_block (a := ⟨b, o + 5, none⟩) hb).trans h5, (World.cell?_of_block (a := ⟨b, o + 6, none⟩) hb).trans h6, (World.cell?_of_block (a := ⟨b, o + 7, none⟩) hb).trans h7⟩
theorem NodeCells.lt {w : World} {b o : Nat} {v : Value} (h : NodeCells w b o v) : b < w.heap.size := by
  obtain ⟨c0, c1, c2, c3, c4, c5, c6, c7, hv, h0, _⟩ := h
  exact World.block_lt_of_cell? w ⟨b, o, none⟩ h0
/-- nothing has turned where a node lies -/
theorem NodeAt.keep {w w' : World} {A A' : Nat → Prop} {v : Value} {d : Nd} (h : NodeAt w A v d) (hb : ∀ b, A b → b < w.heap.size → w'.heap[b]? = w.heap[b]? ∧ A' b) : NodeAt w' A' v d := by
  induction h with
  | mk k f kids lo hi a cap vs hn hcap hcells hkids ih =>
    refine .mk k f kids lo hi a cap vs hn hcap (fun hne => ?_) ih
    obtain ⟨b, o, ha, hA, hc⟩ := hcells hne
    have hlt : b < w.heap.size := by
      cases hv : vs[0]? with
      | none =>
        have := List.getElem?_eq_none_iff.1 hv
        exact absurd (List.eq_nil_of_length_eq_zero (by omega)) hne
      | some v0 => exact (hc 0 v0 hv).lt
    exact ⟨b, o, ha, (hb b hA hlt).2, fun j v hj => (hc j v hj).keep (hb b hA hlt).1⟩
theorem KidsAt.keep {w w' : World} {A A' : Nat → Prop} {v : Value} {l : List Nd} (h : KidsAt w A v l) (hb : ∀ b, A b → b < w.heap.size → w'.heap[b]? = w.heap[b]? ∧ A' b) : KidsAt w' A' v l := by
  obtain ⟨kv, hv, hk⟩ := (h.shut 0 none_ 0 0).keep hb |>.open
  have : v = kv := by
    unfold nodeV at hv
    injection hv with hv
    simp at hv
    exact hv
  rw [this]; exact hk
theorem NodeAt.later {w w' : World} {A : Nat → Prop} {v : Value} {d : Nd} (h : NodeAt w A v d) (hb : Below w.heap.size w w') : NodeAt w' A v d :=
  h.keep fun b hA hlt => ⟨hb.block b hlt, hA⟩
theorem KidsAt.later {w w' : World} {A : Nat → Prop} {v : Value} {d : List Nd} (h : KidsAt w A v d) (hb : Below w.heap.size w w') : KidsAt w' A v d :=
  h.keep fun b hA hlt => ⟨hb.block b hlt, hA⟩

/-! the reader's block -/
def RdAt (w : World) (R : Nat) (p : Tx) (k : Nat) (o : Int) : Prop := w.heap[R]? = some (.cells #[.string ⟨p.toArray⟩, .int .i64 k, .int .i64 o] 49)
theorem RdAt.cells {w : World} {R : Nat} {p : Tx} {k : Nat} {o : Int} (h : RdAt w R p k o) : w.cell? ⟨R, 0, none⟩ = some (.string ⟨p.toArray⟩) ∧ w.cell? ⟨R, 1, none⟩ = some (.int .i64 k) ∧ w.cell? ⟨R, 2, none⟩ = some (.int .i64 o) := by
  unfold RdAt at h
  simp [World.cell?, h]
theorem RdAt.thawed {w : World} {R : Nat} {p : Tx} {k : Nat} {o : Int} (h : RdAt w R p k o) : w.frozen? ⟨R, 0, none⟩ = false ∧ w.frozen? ⟨R, 1, none⟩ = false ∧ w.frozen? ⟨R, 2, none⟩ = false := by
  unfold RdAt at h
  simp [World.frozen?, h]
theorem RdAt.lt {w : World} {R : Nat} {p : Tx} {k : Nat} {o : Int} (h : RdAt w R p k o) : R < w.heap.size := (Array.getElem?_eq_some_iff.1 h).1
theorem RdAt.keep {w w' : World} {R : Nat} {p : Tx} {k : Nat} {o : Int} (h : RdAt w R p k o) (hb : w'.heap[R]? = w.heap[R]?) : RdAt w' R p k o := by unfold RdAt; rw [hb]; exact h
theorem RdAt.later {w w' : World} {R : Nat} {p : Tx} {k : Nat} {o : Int} (h : RdAt w R p k o) (hb : Below w.heap.size w w') : RdAt w' R p k o := h.keep (hb.block R h.lt)
theorem RdAt.alloc {w : World} {R : Nat} {p : Tx} {k : Nat} {o : Int} (h : RdAt w R p k o) (ob : Obj) : RdAt (w.alloc ob) R p k o := h.later ((Below.refl _ w).alloc (Nat.le_refl _) ob)
theorem RdAt.drew {w : World} {R : Nat} {p : Tx} {k : Nat} {o : Int} (h : RdAt w R p k o) : RdAt w.drew R p k o := h
theorem RdAt.other {w : World} {R : Nat} {p : Tx} {k : Nat} {o : Int} (h : RdAt w R p k o) {b i : Nat} {v : Value} (hn : R ≠ b) : RdAt (w.setCell ⟨b, i, none⟩ v) R p k o := h.keep (heap_setCell_other w ⟨b, i, none⟩ R v hn)
theorem RdAt.set1 {w : World} {R : Nat} {p : Tx} {k : Nat} {o : Int} (h : RdAt w R p k o) (y : Nat) : RdAt (w.setCell ⟨R, 1, none⟩ (.int .i64 y)) R p y o := heap_setCell_same w R 1 _ 49 _ h
theorem RdAt.set2 {w : World} {R : Nat} {p : Tx} {k : Nat} {o : Int} (h : RdAt w R p k o) (y : Int) : RdAt (w.setCell ⟨R, 2, none⟩ (.int .i64 y)) R p k y := heap_setCell_same w R 2 _ 49 _ h

/-! blocks of one node -/
def Blk (w : World) (b : Nat) (c0 c1 c2 c3 c4 c5 c6 c7 : Value) : Prop := w.heap[b]? = some (.cells #[c0, c1, c2, c3, c4, c5, c6, c7] 27)
theorem Blk.cells {w : World} {b : Nat} {c0 c1 c2 c3 c4 c5 c6 c7 : Value} (h : Blk w b c0 c1 c2 c3 c4 c5 c6 c7) : w.cell? ⟨b, 0, none⟩ = some c0 ∧ w.cell? ⟨b, 1, none⟩ = some c1 ∧ w.cell? ⟨b, 2, none⟩ = some c2 ∧ w.cell? ⟨b, 3, none⟩ = some c3 ∧ w.cell? ⟨b, 4, none⟩ = some c4 ∧ w.cell? ⟨b, 5, none⟩ = some c5 ∧ w.cell? ⟨b, 6, none⟩ = some c6 ∧ w.cell? ⟨b, 7, none⟩ = some c7 := by
  unfold Blk at h
  simp [World.cell?, h]
theorem Blk.thawed {w : World} {b : Nat} {c0 c1 c2 c3 c4 c5 c6 c7 : Value} (h : Blk w b c0 c1 c2 c3 c4 c5 c6 c7) : w.frozen? ⟨b, 0, none⟩ = false ∧ w.frozen? ⟨b, 1, none⟩ = false ∧ w.frozen? ⟨b, 2, none⟩ = false ∧ w.frozen? ⟨b, 3, none⟩ = false ∧ w.frozen? ⟨b, 4, none⟩ = false ∧ w.frozen? ⟨b, 5, none⟩ = false ∧ w.frozen? ⟨b, 6, none⟩ = false ∧ w.frozen? ⟨b, 7, none⟩ = false := by
  unfold Blk at h
  simp [World.frozen?, h]
theorem Blk.lt {w : World} {b : Nat} {c0 c1 c2 c3 c4 c5 c6 c7 : Value} (h : Blk w b c0 c1 c2 c3 c4 c5 c6 c7) : b < w.heap.size := (Array.getElem?_eq_some_iff.1 h).1
theorem Blk.keep {w w' : World} {b : Nat} {c0 c1 c2 c3 c4 c5 c6 c7 : Value} (h : Blk w b c0 c1 c2 c3 c4 c5 c6 c7) (hb : w'.heap[b]? = w.heap[b]?) : Blk w' b c0 c1 c2 c3 c4 c5 c6 c7 := by unfold Blk; rw [hb]; exact h
theorem Blk.later {w w' : World} {b : Nat} {c0 c1 c2 c3 c4 c5 c6 c7 : Value} (h : Blk w b c0 c1 c2 c3 c4 c5 c6 c7) (hb : Below w.heap.size w w') : Blk w' b c0 c1 c2 c3 c4 c5 c6 c7 := h.keep (hb.block b h.lt)
theorem Blk.alloc {w : World} {b : Nat} {c0 c1 c2 c3 c4 c5 c6 c7 : Value} (h : Blk w b c0 c1 c2 c3 c4 c5 c6 c7) (ob : Obj) : Blk (w.alloc ob) b c0 c1 c2 c3 c4 c5 c6 c7 := h.later ((Below.refl _ w).alloc (Nat.le_refl _) ob)
theorem Blk.drew {w : World} {b : Nat} {c0 c1 c2 c3 c4 c5 c6 c7 : Value} (h : Blk w b c0 c1 c2 c3 c4 c5 c6 c7) : Blk w.drew b c0 c1 c2 c3 c4 c5 c6 c7 := h
theorem Blk.drewN {w : World} {b : Nat} {c0 c1 c2 c3 c4 c5 c6 c7 : Value} (h : Blk w b c0 c1 c2 c3 c4 c5 c6 c7) (n : Nat) : Blk (w.drewN n) b c0 c1 c2 c3 c4 c5 c6 c7 := h
theorem Blk.other {w : World} {b : Nat} {c0 c1 c2 c3 c4 c5 c6 c7 : Value} (h : Blk w b c0 c1 c2 c3 c4 c5 c6 c7) {g i : Nat} {v : Value} (hn : b ≠ g) : Blk (w.setCell ⟨g, i, none⟩ v) b c0 c1 c2 c3 c4 c5 c6 c7 := h.keep (heap_setCell_other w ⟨g, i, none⟩ b v hn)
theorem Blk.new (w : World) (c0 c1 c2 c3 c4 c5 c6 c7 : Value) : Blk (w.alloc (.cells #[c0, c1, c2, c3, c4, c5, c6, c7] 27)) w.heap.size c0 c1 c2 c3 c4 c5 c6 c7 := by
  show (w.heap.push _)[w.heap.size]? = _
  exact Array.getElem?_push_size
theorem Blk.newAt {w : World} {b : Nat} {c0 c1 c2 c3 c4 c5 c6 c7 : Value} (hb : b = w.heap.size) : Blk (w.alloc (.cells #[c0, c1, c2, c3, c4, c5, c6, c7] 27)) b c0 c1 c2 c3 c4 c5 c6 c7 := by subst hb; exact Blk.new w _ _ _ _ _ _ _ _
theorem Blk.put {w : World} {b : Nat} {c0 c1 c2 c3 c4 c5 c6 c7 : Value} (h : Blk w b c0 c1 c2 c3 c4 c5 c6 c7) (d0 d1 d2 d3 d4 d5 d6 d7 : Value) : Blk ((((((((w.setCell ⟨b, 0, none⟩ d0).setCell ⟨b, 1, none⟩ d1).setCell ⟨b, 2, none⟩ d2).setCell ⟨b, 3, none⟩ d3).setCell ⟨b, 4, none⟩ d4).setCell ⟨b, 5, none⟩ d5).setCell ⟨b, 6, none⟩ d6).setCell ⟨b, 7, none⟩ d7) b d0 d1 d2 d3 d4 d5 d6 d7 := by
  have h1 : (w.setCell ⟨b, 0, none⟩ d0).heap[b]? = some (.cells #[d0, c1, c2, c3, c4, c5, c6, c7] 27) := heap_setCell_same w b 0 _ 27 _ h
  have h2 : ((w.setCell ⟨b, 0, none⟩ d0).setCell ⟨b, 1, none⟩ d1).heap[b]? = some (.cells #[d0, d1, c2, c3, c4, c5, c6, c7] 27) := heap_setCell_same (w.setCell ⟨b, 0, none⟩ d0) b 1 _ 27 _ h1
  have h3 : (((w.setCell ⟨b, 0, none⟩ d0).setCell ⟨b, 1, none⟩ d1).setCell ⟨b, 2, none⟩ d2).heap[b]? = some (.cells #[d0, d1, d2, c3, c4, c5, c6, c7] 27) := heap_setCell_same ((w.setCell ⟨b, 0, none⟩ d0).setCell ⟨b, 1, none⟩ d1) b 2 _ 27 _ h2
  have h4 : ((((w.setCell ⟨b, 0, none⟩ d0).setCell ⟨b, 1, none⟩ d1).setCell ⟨b, 2, none⟩ d2).setCell ⟨b, 3, none⟩ d3).heap[b]? = some (.cells #[d0, d1, d2, d3, c4, c5, c6, c7] 27) := heap_setCell_same (((w.setCell ⟨b, 0, none⟩ d0).setCell ⟨b, 1, none⟩ d1).setCell ⟨b, 2, none⟩ d2) b 3 _ 27 _ h3
  have h5 : (((((w.setCell ⟨b, 0, none⟩ d0).setCell ⟨b, 1, none⟩ d1).setCell ⟨b, 2, none⟩ d2).setCell ⟨b, 3, none⟩ d3).setCell ⟨b, 4, none⟩ d4).heap[b]? = some (.cells #[d0, d1, d2, d3, d4, c5, c6, c7] 27) := heap_setCell_same ((((w.setCell ⟨b, 0, none⟩ d0).setCell ⟨b, 1, none⟩ d1).setCell ⟨b, 2, none⟩ d2).setCell ⟨b, 3, none⟩ d3) b 4 _ 27 _ h4
  have h6 : ((((((w.setCell ⟨b, 0, none⟩ d0).setCell ⟨b, 1, none⟩ d1).setCell ⟨b, 2, none⟩ d2).setCell ⟨b, 3, none⟩ d3).setCell ⟨b, 4, none⟩ d4).setCell ⟨b, 5, none⟩ d5).heap[b]? = some (.cells #[d0, d1, d2, d3, d4, d5, c6, c7] 27) := heap_setCell_same (((((w.setCell ⟨b, 0, none⟩ d0).setCell ⟨b, 1, none⟩ d1).setCell ⟨b, 2, none⟩ d2).setCell ⟨b, 3, none⟩ d3).setCell ⟨b, 4, none⟩ d4) b 5 _ 27 _ h5
  have h7 : (((((((w.setCell ⟨b, 0, none⟩ d0).setCell ⟨b, 1, none⟩ d1).setCell ⟨b, 2, none⟩ d2).setCell ⟨b, 3, none⟩ d3).setCell ⟨b, 4, none⟩ d4).setCell ⟨b, 5, none⟩ d5).setCell ⟨b, 6, none⟩ d6).heap[b]? = some (.cells #[d0, d1, d2, d3, d4, d5, d6, c7] 27) := heap_setCell_same ((((((w.setCell ⟨b, 0, none⟩ d0).setCell ⟨b, 1, none⟩ d1).setCell ⟨b, 2, none⟩ d2).setCell ⟨b, 3, none⟩ d3).setCell ⟨b, 4, none⟩ d4).setCell ⟨b, 5, none⟩ d5) b 6 _ 27 _ h6
  have h8 : ((((((((w.setCell ⟨b, 0, none⟩ d0).setCell ⟨b, 1, none⟩ d1).setCell ⟨b, 2, none⟩ d2).setCell ⟨b, 3, none⟩ d3).setCell ⟨b, 4, none⟩ d4).setCell ⟨b, 5, none⟩ d5).setCell ⟨b, 6, none⟩ d6).setCell ⟨b, 7, none⟩ d7).heap[b]? = some (.cells #[d0, d1, d2, d3, d4, d5, d6, d7] 27) := heap_setCell_same (((((((w.setCell ⟨b, 0, none⟩ d0).setCell ⟨b, 1, none⟩ d1).setCell ⟨b, 2, none⟩ d2).setCell ⟨b, 3, none⟩ d3).setCell ⟨b, 4, none⟩ d4).setCell ⟨b, 5, none⟩ d5).setCell ⟨b, 6, none⟩ d6) b 7 _ 27 _ h7
  exact h8
/-- all old blocks but the reader's stand as they stood -/
abbrev Gr (R : Nat) (w w' : World) : Prop := w.grownBy w' (some R)
theorem Gr.refl (R : Nat) (w : World) : Gr R w w := ⟨rfl, rfl, rfl, Nat.le_refl _, fun _ _ _ => rfl⟩
theorem Gr.tr {R : Nat} {a b c : World} (h : Gr R a b) (k : Gr R b c) : Gr R a c := World.grownBy.trans h k
theorem Gr.below {R : Nat} {w W W' : World} (h : Gr R w W) (hb : Below W.heap.size W W') : Gr R w W' :=
  ⟨hb.os.trans h.os, hb.tape.trans h.tape, hb.output.trans h.output, Nat.le_trans h.size hb.size, fun k hk hne => (hb.block k (Nat.lt_of_lt_of_le hk h.size)).trans (h.block k hk hne)⟩
theorem Gr.alloc {R : Nat} {w W : World} (h : Gr R w W) (o : Obj) : Gr R w (W.alloc o) := Gr.below h ((Below.refl _ W).alloc (Nat.le_refl _) o)
theorem Gr.drew {R : Nat} {w W : World} (h : Gr R w W) : Gr R w W.drew := ⟨h.os, h.tape, h.output, h.size, h.block⟩
theorem Gr.own {R : Nat} {w W : World} (h : Gr R w W) (i : Nat) (v : Value) : Gr R w (W.setCell ⟨R, i, none⟩ v) :=
  ⟨h.os, h.tape, h.output, by simpa [World.setCell] using h.size, fun k hk hne => (Below.heap_setCell W ⟨R, i, none⟩ v k (fun e => hne (by rw [e]))).trans (h.block k hk hne)⟩
theorem Gr.new {R : Nat} {w W : World} (h : Gr R w W) {b : Nat} (hb : w.heap.size ≤ b) (i : Nat) (v : Value) : Gr R w (W.setCell ⟨b, i, none⟩ v) :=
  ⟨h.os, h.tape, h.output, by simpa [World.setCell] using h.size, fun k hk hne => (Below.heap_setCell W ⟨b, i, none⟩ v k (by simp; omega)).trans (h.block k hk hne)⟩
theorem Gr.put {R : Nat} {w W : World} (h : Gr R w W) {b : Nat} (hb : w.heap.size ≤ b) (d0 d1 d2 d3 d4 d5 d6 d7 : Value) : Gr R w ((((((((W.setCell ⟨b, 0, none⟩ d0).setCell ⟨b, 1, none⟩ d1).setCell ⟨b, 2, none⟩ d2).setCell ⟨b, 3, none⟩ d3).setCell ⟨b, 4, none⟩ d4).setCell ⟨b, 5, none⟩ d5).setCell ⟨b, 6, none⟩ d6).setCell ⟨b, 7, none⟩ d7) :=
  (Gr.new (Gr.new (Gr.new (Gr.new (Gr.new (Gr.new (Gr.new (Gr.new h hb 0 _) hb 1 _) hb 2 _) hb 3 _) hb 4 _) hb 5 _) hb 6 _) hb 7 _)
theorem Gr.grown {R : Nat} {w W W' : World} {row : Option Nat} (h : Gr R w W) (hg : W.grownBy W' row) (hr : ∀ k, row = some k → w.heap.size ≤ k) : Gr R w W' :=
  ⟨hg.os.trans h.os, hg.tape.trans h.tape, hg.output.trans h.output, Nat.le_trans h.size hg.size, fun k hk hne => (hg.block k (Nat.lt_of_lt_of_le hk h.size) (fun e => by have := hr k e.symm; omega)).trans (h.block k hk hne)⟩
theorem Gr.toBelow {R B : Nat} {w W : World} (h : Gr R w W) (hB : B ≤ w.heap.size) (hR : B ≤ R) : Below B w W :=
  (Below.refl B w).grown h hB (fun k hk => by cases hk; exact hR)
/-- what was made behind the reader's block stays as it was while the reader goes on -/
theorem Gr.same {R : Nat} {w w' : World} (h : Gr R w w') {b : Nat} (hb : b < w.heap.size) (hn : b ≠ R) : w'.heap[b]? = w.heap[b]? := h.block b hb (fun e => hn (by cases e; rfl))

/-- what a reader answers, from a place on -/
def Ans (w w' : World) (e : Ending) (R : Nat) (p : Tx) (k : Nat) (o : Int) : Rs Nd → Prop
  | .ok x m => ∃ v, e = .returned (.tuple #[v, .int .i64 0]) ∧ NodeAt w' (w.heap.size ≤ ·) v x ∧ RdAt w' R p (k + m) o
  | .er m c => e = .returned (.tuple #[zeroV, .int .i64 c]) ∧ c ≠ 0 ∧ ∃ o', RdAt w' R p (k + m) o'
/-- the call answers as the reading does -/
def Reads (fn : Nat) (rd : Tx → Rs Nd) (o : Int) : Prop :=
  ∀ (p : Tx) (k R : Nat) (w : World), p.length ≤ 1000 → k < p.length → RdAt w R p k o →
    Calls Try.prog fn #[.pointer (some ⟨R, 0, none⟩)] w fun e w' => Gr R w w' ∧ Ans w w' e R p k o (rd (p.drop k))
/-- .. at the text's end too -/
def ReadsTo (fn : Nat) (rd : Tx → Rs Nd) (o : Int) : Prop :=
  ∀ (p : Tx) (k R : Nat) (w : World), p.length ≤ 1000 → k ≤ p.length → RdAt w R p k o →
    Calls Try.prog fn #[.pointer (some ⟨R, 0, none⟩)] w fun e w' => Gr R w w' ∧ Ans w w' e R p k o (rd (p.drop k))

theorem heap_put (W : World) {b g : Nat} (hn : g ≠ b) (d0 d1 d2 d3 d4 d5 d6 d7 : Value) : ((((((((W.setCell ⟨b, 0, none⟩ d0).setCell ⟨b, 1, none⟩ d1).setCell ⟨b, 2, none⟩ d2).setCell ⟨b, 3, none⟩ d3).setCell ⟨b, 4, none⟩ d4).setCell ⟨b, 5, none⟩ d5).setCell ⟨b, 6, none⟩ d6).setCell ⟨b, 7, none⟩ d7).heap[g]? = W.heap[g]? := by
  rw [heap_setCell_other _ ⟨b, 7, none⟩ g _ hn]
  rw [heap_setCell_other _ ⟨b, 6, none⟩ g _ hn]
  rw [heap_setCell_other _ ⟨b, 5, none⟩ g _ hn]
  rw [heap_setCell_other _ ⟨b, 4, none⟩ g _ hn]
  rw [heap_setCell_other _ ⟨b, 3, none⟩ g _ hn]
  rw [heap_setCell_other _ ⟨b, 2, none⟩ g _ hn]
  rw [heap_setCell_other _ ⟨b, 1, none⟩ g _ hn]
  rw [heap_setCell_other _ ⟨b, 0, none⟩ g _ hn]
theorem RdAt.put {w : World} {R : Nat} {p : Tx} {k : Nat} {o : Int} (h : RdAt w R p k o) {b : Nat} (hn : R ≠ b) (d0 d1 d2 d3 d4 d5 d6 d7 : Value) : RdAt ((((((((w.setCell ⟨b, 0, none⟩ d0).setCell ⟨b, 1, none⟩ d1).setCell ⟨b, 2, none⟩ d2).setCell ⟨b, 3, none⟩ d3).setCell ⟨b, 4, none⟩ d4).setCell ⟨b, 5, none⟩ d5).setCell ⟨b, 6, none⟩ d6).setCell ⟨b, 7, none⟩ d7) R p k o := h.keep (heap_put w hn _ _ _ _ _ _ _ _)
theorem NodeAt.put {w : World} {A : Nat → Prop} {v : Value} {x : Nd} (h : NodeAt w A v x) {b : Nat} (hn : ∀ g, A g → g ≠ b) (d0 d1 d2 d3 d4 d5 d6 d7 : Value) : NodeAt ((((((((w.setCell ⟨b, 0, none⟩ d0).setCell ⟨b, 1, none⟩ d1).setCell ⟨b, 2, none⟩ d2).setCell ⟨b, 3, none⟩ d3).setCell ⟨b, 4, none⟩ d4).setCell ⟨b, 5, none⟩ d5).setCell ⟨b, 6, none⟩ d6).setCell ⟨b, 7, none⟩ d7) A v x := h.keep fun g hA _ => ⟨heap_put w (hn g hA) _ _ _ _ _ _ _ _, hA⟩
theorem Blk.putOther {w : World} {b : Nat} {c0 c1 c2 c3 c4 c5 c6 c7 : Value} (h : Blk w b c0 c1 c2 c3 c4 c5 c6 c7) {g : Nat} (hn : b ≠ g) (d0 d1 d2 d3 d4 d5 d6 d7 : Value) : Blk ((((((((w.setCell ⟨g, 0, none⟩ d0).setCell ⟨g, 1, none⟩ d1).setCell ⟨g, 2, none⟩ d2).setCell ⟨g, 3, none⟩ d3).setCell ⟨g, 4, none⟩ d4).setCell ⟨g, 5, none⟩ d5).setCell ⟨g, 6, none⟩ d6).setCell ⟨g, 7, none⟩ d7) b c0 c1 c2 c3 c4 c5 c6 c7 := h.keep (heap_put w hn _ _ _ _ _ _ _ _)

theorem results_node1 {fn : Func} {t : Tmp} (h : fn.results = #[.cell t 27]) (tmps : Array Value) (w : World) (b : Nat) (c0 c1 c2 c3 c4 c5 c6 c7 : Value) (hp : tmps.getD t undef = .pointer (some ⟨b, 0, none⟩)) (hb : Blk w b c0 c1 c2 c3 c4 c5 c6 c7) :
    (results fn tmps).run Try.prog w = .ok (.agg #[c0, c1, c2, c3, c4, c5, c6, c7]) w := by
  obtain ⟨q0, q1, q2, q3, q4, q5, q6, q7⟩ := hb.cells
  rw [Array.getD_eq_getD_getElem?] at hp
  simp [results, h, hp, go_sem, q0, q1, q2, q3, q4, q5, q6, q7]
theorem results_node2 {fn : Func} {t u : Tmp} (h : fn.results = #[.cell t 27, .tmp u]) (tmps : Array Value) (w : World) (b : Nat) (c0 c1 c2 c3 c4 c5 c6 c7 : Value) (hp : tmps.getD t undef = .pointer (some ⟨b, 0, none⟩)) (hb : Blk w b c0 c1 c2 c3 c4 c5 c6 c7) :
    (results fn tmps).run Try.prog w = .ok (.tuple #[.agg #[c0, c1, c2, c3, c4, c5, c6, c7], tmps.getD u undef]) w := by
  obtain ⟨q0, q1, q2, q3, q4, q5, q6, q7⟩ := hb.cells
  rw [Array.getD_eq_getD_getElem?] at hp
  simp [results, h, hp, go_sem, q0, q1, q2, q3, q4, q5, q6, q7]
theorem results_node3 {fn : Func} {t u v : Tmp} (h : fn.results = #[.cell t 27, .tmp u, .tmp v]) (tmps : Array Value) (w : World) (b : Nat) (c0 c1 c2 c3 c4 c5 c6 c7 : Value) (hp : tmps.getD t undef = .pointer (some ⟨b, 0, none⟩)) (hb : Blk w b c0 c1 c2 c3 c4 c5 c6 c7) :
    (results fn tmps).run Try.prog w = .ok (.tuple #[.agg #[c0, c1, c2, c3, c4, c5, c6, c7], tmps.getD u undef, tmps.getD v undef]) w := by
  obtain ⟨q0, q1, q2, q3, q4, q5, q6, q7⟩ := hb.cells
  rw [Array.getD_eq_getD_getElem?] at hp
  simp [results, h, hp, go_sem, q0, q1, q2, q3, q4, q5, q6, q7]

theorem RdAt.set1i {w : World} {R : Nat} {p : Tx} {k : Nat} {o : Int} (h : RdAt w R p k o) (y : Int) (n : Nat) (hy : y = n) : RdAt (w.setCell ⟨R, 1, none⟩ (.int .i64 y)) R p n o := by rw [hy]; exact h.set1 n
theorem RdAt.set2i {w : World} {R : Nat} {p : Tx} {k : Nat} {o : Int} (h : RdAt w R p k o) (y z : Int) (hy : y = z) : RdAt (w.setCell ⟨R, 2, none⟩ (.int .i64 y)) R p k z := by rw [hy]; exact h.set2 z
theorem NodeAt.up {w : World} {n m : Nat} {v : Value} {x : Nd} (h : NodeAt w (m ≤ ·) v x) (hn : n ≤ m) : NodeAt w (n ≤ ·) v x := h.keep fun _ hA _ => ⟨rfl, Nat.le_trans hn hA⟩
theorem NodeAt.alloc {w : World} {A : Nat → Prop} {v : Value} {x : Nd} (h : NodeAt w A v x) (o : Obj) : NodeAt (w.alloc o) A v x := h.later ((Below.refl _ w).alloc (Nat.le_refl _) o)
theorem NodeAt.drew {w : World} {A : Nat → Prop} {v : Value} {x : Nd} (h : NodeAt w A v x) : NodeAt w.drew A v x := h.keep fun _ hA _ => ⟨rfl, hA⟩
theorem NodeAt.other {w : World} {n : Nat} {v : Value} {x : Nd} (h : NodeAt w (n ≤ ·) v x) {g i : Nat} {u : Value} (hg : g < n) : NodeAt (w.setCell ⟨g, i, none⟩ u) (n ≤ ·) v x :=
  h.keep fun b hA _ => ⟨heap_setCell_other w ⟨g, i, none⟩ b u (by have : n ≤ b := hA; show b ≠ g; omega), hA⟩
theorem NodeAt.putN {w : World} {n : Nat} {v : Value} {x : Nd} (h : NodeAt w (n ≤ ·) v x) {b : Nat} (hn : b < n) (d0 d1 d2 d3 d4 d5 d6 d7 : Value) : NodeAt ((((((((w.setCell ⟨b, 0, none⟩ d0).setCell ⟨b, 1, none⟩ d1).setCell ⟨b, 2, none⟩ d2).setCell ⟨b, 3, none⟩ d3).setCell ⟨b, 4, none⟩ d4).setCell ⟨b, 5, none⟩ d5).setCell ⟨b, 6, none⟩ d6).setCell ⟨b, 7, none⟩ d7) (n ≤ ·) v x := h.put (fun g hA => by have : n ≤ g := hA; omega) _ _ _ _ _ _ _ _
/-- while the reader goes on -/
theorem NodeAt.gr {w w' : World} {R n : Nat} {v : Value} {x : Nd} (h : NodeAt w (n ≤ ·) v x) (hg : Gr R w w') (hR : R < n) : NodeAt w' (n ≤ ·) v x :=
  h.keep fun b hA hlt => ⟨hg.same hlt (by have : n ≤ b := hA; omega), hA⟩
theorem Blk.gr {w w' : World} {R b : Nat} {c0 c1 c2 c3 c4 c5 c6 c7 : Value} (h : Blk w b c0 c1 c2 c3 c4 c5 c6 c7) (hg : Gr R w w') (hR : b ≠ R) : Blk w' b c0 c1 c2 c3 c4 c5 c6 c7 := h.keep (hg.same h.lt hR)

/-- from a block on, but one -/
def Off (n N : Nat) (b : Nat) : Prop := n ≤ b ∧ b ≠ N
theorem NodeAt.toOff {w : World} {n m N : Nat} {v : Value} {x : Nd} (h : NodeAt w (m ≤ ·) v x) (hn : n ≤ m) (hN : w.heap.size ≤ N) : NodeAt w (Off n N) v x :=
  h.keep fun b hA hlt => ⟨rfl, Nat.le_trans hn hA, by omega⟩
theorem NodeAt.ofOff {w : World} {n m N : Nat} {v : Value} {x : Nd} (h : NodeAt w (Off n N) v x) (hn : m ≤ n) : NodeAt w (m ≤ ·) v x :=
  h.keep fun _ hA _ => ⟨rfl, Nat.le_trans hn hA.1⟩
theorem NodeAt.otherO {w : World} {n N : Nat} {v : Value} {x : Nd} (h : NodeAt w (Off n N) v x) {g i : Nat} {u : Value} (hg : g < n ∨ g = N) : NodeAt (w.setCell ⟨g, i, none⟩ u) (Off n N) v x :=
  h.keep fun b hA _ => ⟨heap_setCell_other w ⟨g, i, none⟩ b u (by have h1 := hA.1; have h2 := hA.2; show b ≠ g; omega), hA⟩
theorem NodeAt.putO {w : World} {n N : Nat} {v : Value} {x : Nd} (h : NodeAt w (Off n N) v x) {b : Nat} (hn : b < n ∨ b = N) (d0 d1 d2 d3 d4 d5 d6 d7 : Value) : NodeAt ((((((((w.setCell ⟨b, 0, none⟩ d0).setCell ⟨b, 1, none⟩ d1).setCell ⟨b, 2, none⟩ d2).setCell ⟨b, 3, none⟩ d3).setCell ⟨b, 4, none⟩ d4).setCell ⟨b, 5, none⟩ d5).setCell ⟨b, 6, none⟩ d6).setCell ⟨b, 7, none⟩ d7) (Off n N) v x := h.put (fun g hA => by have h1 := hA.1; have h2 := hA.2; omega) _ _ _ _ _ _ _ _
/-- the shape of a node's value -/
theorem NodeAt.shapeI {w : World} {A : Nat → Prop} {v : Value} {x : Nd} (h : NodeAt w A v x) : ∃ (z y0 y1 y2 y3 : Int) (sa : Option Addr) (sn sc : Nat) (lo hi : Int), v = .agg #[.int .i64 z, .int .u64 y0, .int .u64 y1, .int .u64 y2, .int .u64 y3, .slice sa sn sc, .int .i64 lo, .int .i64 hi] := by
  obtain ⟨k, f, kids, lo, hi⟩ := x
  obtain ⟨kv, rfl, a, cap, vs, rfl, _⟩ := h.open
  exact ⟨_, _, _, _, _, _, _, _, _, _, rfl⟩
/-- a node, so many times -/
theorem times_at {w : World} {A : Nat → Prop} {B : Nat} {x : Nd} {c0 c1 c2 c3 c4 c5 c6 c7 : Value} {z l h : Int} (hx : NodeAt w A (.agg #[c0, c1, c2, c3, c4, c5, c6, c7]) x) (hb : Blk w B c0 c1 c2 c3 c4 c5 c6 c7) (hA : A B) (hz : z = 5) :
    NodeAt w A (.agg #[.int .i64 z, .int .u64 0, .int .u64 0, .int .u64 0, .int .u64 0, .slice (some ⟨B, 0, none⟩) 1 1, .int .i64 l, .int .i64 h]) (timesN x l h) := by
  obtain ⟨q0, q1, q2, q3, q4, q5, q6, q7⟩ := hb.cells
  have hk : KidsAt w A (.slice (some ⟨B, 0, none⟩) 1 1) [x] := by
    refine ⟨some ⟨B, 0, none⟩, 1, [.agg #[c0, c1, c2, c3, c4, c5, c6, c7]], rfl, rfl, Nat.le_refl _, fun _ => ⟨B, 0, rfl, hA, fun j v hj => ?_⟩, fun j v d hj hd => ?_⟩
    · match j, hj with
      | 0, hj =>
        simp at hj
        subst hj
        exact ⟨c0, c1, c2, c3, c4, c5, c6, c7, rfl, q0, q1, q2, q3, q4, q5, q6, q7⟩
    · match j, hj, hd with
      | 0, hj, hd =>
        simp at hj hd
        subst hj; subst hd
        exact hx
  have := hk.shut 5 none_ l h
  unfold nodeV at this
  rw [show word none_ 0 = 0 from word_none 0, show word none_ 1 = 0 from word_none 1, show word none_ 2 = 0 from word_none 2, show word none_ 3 = 0 from word_none 3] at this
  rw [hz]
  exact this

/-- where the reader stands -/
def posOf (w : World) (R : Nat) : Nat := match w.cell? ⟨R, 1, none⟩ with | some v => (intOf v).toNat | none => 0
theorem RdAt.pos {w : World} {R : Nat} {p : Tx} {k : Nat} {o : Int} (h : RdAt w R p k o) : posOf w R = k := by
  unfold posOf
  rw [h.cells.2.1]
  simp [intOf]
theorem RdAt.less {w w' : World} {R : Nat} {p : Tx} {k k' : Nat} {o o' : Int} (h' : RdAt w' R p k' o') (h : RdAt w R p k o) (hk : k < k') (hp : k' ≤ p.length) : p.length - posOf w' R < p.length - posOf w R := by
  rw [h.pos, h'.pos]; omega

theorem bel_alloc {a w : World} (h : Below a.heap.size a w) (o : Obj) : Below a.heap.size a (w.alloc o) := h.alloc h.size o
theorem bel_set {a w : World} (h : Below a.heap.size a w) {b i : Nat} {u : Value} (hb : a.heap.size ≤ b) : Below a.heap.size a (w.setCell ⟨b, i, none⟩ u) := h.setCell (p := ⟨b, i, none⟩) hb u
theorem bel_put {a w : World} (h : Below a.heap.size a w) {b : Nat} (hb : a.heap.size ≤ b) (d0 d1 d2 d3 d4 d5 d6 d7 : Value) : Below a.heap.size a ((((((((w.setCell ⟨b, 0, none⟩ d0).setCell ⟨b, 1, none⟩ d1).setCell ⟨b, 2, none⟩ d2).setCell ⟨b, 3, none⟩ d3).setCell ⟨b, 4, none⟩ d4).setCell ⟨b, 5, none⟩ d5).setCell ⟨b, 6, none⟩ d6).setCell ⟨b, 7, none⟩ d7) := (bel_set (bel_set (bel_set (bel_set (bel_set (bel_set (bel_set (bel_set h hb) hb) hb) hb) hb) hb) hb) hb)

end Go.Proofs.Ytjeloflfhofdlaa
