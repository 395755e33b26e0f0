/-
  Lists of two and of three nodes that were made in one block, as a node's parts; no conditions.
-/
import Derived.Test.YtjlihidmohokhaaNTwo
namespace Go.Proofs.Ytjlihidmohokhaa
open Go.RowKit Go.Proofs.Ytjlihidmohokhaa.Gl

theorem block_cell {X : World} {bb : Nat} {cs : Array Value} {t : TypeId} (h : X.heap[bb]? = some (.cells cs t)) (i : Nat) : X.cell? ⟨bb, i, none⟩ = cs[i]? := by
  simp [World.cell?, h]
theorem block_new (X : World) (o : Obj) : (X.alloc o).heap[X.heap.size]? = some o := by
  show (X.heap.push o)[X.heap.size]? = some o
  simp
theorem block_later {X Y : World} {o : Obj} (hb : Below (X.alloc o).heap.size (X.alloc o) Y) : Y.heap[X.heap.size]? = some o :=
  (hb.block X.heap.size (by simp)).trans (block_new X o)
theorem block_newD (X : World) (o : Obj) : (X.alloc o).drew.heap[X.heap.size]? = some o := block_new X o
theorem block_laterD {X Y : World} {o : Obj} (hb : Below (X.alloc o).drew.heap.size (X.alloc o).drew Y) : Y.heap[X.heap.size]? = some o :=
  (hb.block X.heap.size (by show _ < (X.alloc o).heap.size; simp)).trans (block_new X o)
theorem block_keep {X Y : World} {bb : Nat} {o : Obj} (h : X.heap[bb]? = some o) (hb : Below X.heap.size X Y) : Y.heap[bb]? = some o :=
  (hb.block bb (Array.getElem?_eq_some_iff.1 h).1).trans h
/-- a node of some kind over a list of parts -/
theorem over_at {X : World} {A : Nat → Prop} {kv : Value} {l : List Nd} {k lo hi : Int} (h : KidsAt X A kv l) : NodeAt X A (.agg #[.int .i64 k, .int .u64 0, .int .u64 0, .int .u64 0, .int .u64 0, kv, .int .i64 lo, .int .i64 hi]) (.mk k none_ l lo hi) := by
  have g := h.shut k none_ lo hi
  unfold nodeV at g
  rw [show word none_ 0 = 0 from word_none 0, show word none_ 1 = 0 from word_none 1, show word none_ 2 = 0 from word_none 2, show word none_ 3 = 0 from word_none 3] at g
  exact g
theorem kids_one {X : World} {bb : Nat} {t : TypeId} {a0 a1 a2 a3 a4 a5 a6 a7 : Value} {xa : Nd} (h : X.heap[bb]? = some (.cells #[a0, a1, a2, a3, a4, a5, a6, a7] t)) (ha : NodeAt X (fun _ => True) (.agg #[a0, a1, a2, a3, a4, a5, a6, a7]) xa) : KidsAt X (fun _ => True) (.slice (some ⟨bb, 0, none⟩) 1 1) [xa] := by
  have hcell := block_cell h
  refine ⟨some ⟨bb, 0, none⟩, 1, [.agg #[a0, a1, a2, a3, a4, a5, a6, a7]], rfl, rfl, Nat.le_refl _, fun _ => ⟨bb, 0, rfl, trivial, fun j v hj => ?_⟩, fun j v d hj hd => ?_⟩
  · match j, hj with
    | 0, hj =>
      simp at hj
      subst hj
      exact ⟨a0, a1, a2, a3, a4, a5, a6, a7, rfl, hcell 0, hcell 1, hcell 2, hcell 3, hcell 4, hcell 5, hcell 6, hcell 7⟩
  · match j, hj, hd with
    | 0, hj, hd =>
      simp at hj hd
      subst hj; subst hd
      exact ha
theorem kids_two {X : World} {bb : Nat} {t : TypeId} {a0 a1 a2 a3 a4 a5 a6 a7 b0 b1 b2 b3 b4 b5 b6 b7 : Value} {xa xb : Nd} (h : X.heap[bb]? = some (.cells #[a0, a1, a2, a3, a4, a5, a6, a7, b0, b1, b2, b3, b4, b5, b6, b7] t)) (ha : NodeAt X (fun _ => True) (.agg #[a0, a1, a2, a3, a4, a5, a6, a7]) xa) (hb : NodeAt X (fun _ => True) (.agg #[b0, b1, b2, b3, b4, b5, b6, b7]) xb) : KidsAt X (fun _ => True) (.slice (some ⟨bb, 0, none⟩) 2 2) [xa, xb] := by
  have hcell := block_cell h
  refine ⟨some ⟨bb, 0, none⟩, 2, [.agg #[a0, a1, a2, a3, a4, a5, a6, a7], .agg #[b0, b1, b2, b3, b4, b5, b6, b7]], rfl, rfl, Nat.le_refl _, fun _ => ⟨bb, 0, rfl, trivial, fun j v hj => ?_⟩, fun j v d hj hd => ?_⟩
  · match j, hj with
    | 0, hj =>
      simp at hj
      subst hj
      exact ⟨a0, a1, a2, a3, a4, a5, a6, a7, rfl, hcell 0, hcell 1, hcell 2, hcell 3, hcell 4, hcell 5, hcell 6, hcell 7⟩
    | 1, hj =>
      simp at hj
      subst hj
      exact ⟨b0, b1, b2, b3, b4, b5, b6, b7, rfl, hcell 8, hcell 9, hcell 10, hcell 11, hcell 12, hcell 13, hcell 14, hcell 15⟩
  · match j, hj, hd with
    | 0, hj, hd =>
      simp at hj hd
      subst hj; subst hd
      exact ha
    | 1, hj, hd =>
      simp at hj hd
      subst hj; subst hd
      exact hb
theorem kids_three {X : World} {bb : Nat} {t : TypeId} {a0 a1 a2 a3 a4 a5 a6 a7 b0 b1 b2 b3 b4 b5 b6 b7 c0 c1 c2 c3 c4 c5 c6 c7 : Value} {xa xb xc : Nd} (h : X.heap[bb]? = some (.cells #[a0, a1, a2, a3, a4, a5, a6, a7, b0, b1, b2, b3, b4, b5, b6, b7, c0, c1, c2, c3, c4, c5, c6, c7] t)) (ha : NodeAt X (fun _ => True) (.agg #[a0, a1, a2, a3, a4, a5, a6, a7]) xa) (hb : NodeAt X (fun _ => True) (.agg #[b0, b1, b2, b3, b4, b5, b6, b7]) xb) (hc : NodeAt X (fun _ => True) (.agg #[c0, c1, c2, c3, c4, c5, c6, c7]) xc) : KidsAt X (fun _ => True) (.slice (some ⟨bb, 0, none⟩) 3 3) [xa, xb, xc] := by
  have hcell := block_cell h
  refine ⟨some ⟨bb, 0, none⟩, 3, [.agg #[a0, a1, a2, a3, a4, a5, a6, a7], .agg #[b0, b1, b2, b3, b4, b5, b6, b7], .agg #[c0, c1, c2, c3, c4, c5, c6, c7]], rfl, rfl, Nat.le_refl _, fun _ => ⟨bb, 0, rfl, trivial, fun j v hj => ?_⟩, fun j v d hj hd => ?_⟩
  · match j, hj with
    | 0, hj =>
      simp at hj
      subst hj
      exact ⟨a0, a1, a2, a3, a4, a5, a6, a7, rfl, hcell 0, hcell 1, hcell 2, hcell 3, hcell 4, hcell 5, hcell 6, hcell 7⟩
    | 1, hj =>
      simp at hj
      subst hj
      exact ⟨b0, b1, b2, b3, b4, b5, b6, b7, rfl, hcell 8, hcell 9, hcell 10, hcell 11, hcell 12, hcell 13, hcell 14, hcell 15⟩
    | 2, hj =>
      simp at hj
      subst hj
      exact ⟨c0, c1, c2, c3, c4, c5, c6, c7, rfl, hcell 16, hcell 17, hcell 18, hcell 19, hcell 20, hcell 21, hcell 22, hcell 23⟩
  · match j, hj, hd with
    | 0, hj, hd =>
      simp at hj hd
      subst hj; subst hd
      exact ha
    | 1, hj, hd =>
      simp at hj hd
      subst hj; subst hd
      exact hb
    | 2, hj, hd =>
      simp at hj hd
      subst hj; subst hd
      exact hc

end Go.Proofs.Ytjlihidmohokhaa
