/-
  The law NfaTimes returns true for every two texts and every number, and nothing of what was in memory has turned; conditions: none but those of the row.
-/
import Derived.Test.YtjlihidmohokhaaKBase
import Derived.Test.YtjlihidmohokhaaNFact2
import Derived.Test.YtjlihidmohokhaaNSmall
import Derived.Deep.RegionHeld3
import Derived.BigQuiet
import Derived.Deep.CutRange
import Derived.Test.YtjlihidmohokhaaRows
import Derived.ProofKit
import Derived.OpenShut
import Derived.SizedLaws
import Derived.WalkSmall
import Derived.ShutString
namespace Go.Proofs.Ytjlihidmohokhaa
open Go.RowKit Go.Proofs.Ytjlihidmohokhaa.Gl

/-- two nodes, each in a block of its own -/
structure TK (w : World) (b0 : Nat) (A0 : Nat → Prop) (z y0 y1 y2 y3 : Int) (sa : Option Addr) (sn sc : Nat) (lo hi : Int) (x : Nd) (b1 : Nat) (A1 : Nat → Prop) (qz qy0 qy1 qy2 qy3 : Int) (qsa : Option Addr) (qsn qsc : Nat) (qlo qhi : Int) (y : Nd) (X : World) : Prop where
  below : Below w.heap.size w X
  blk0 : Blk X b0 (.int .i64 z) (.int .u64 y0) (.int .u64 y1) (.int .u64 y2) (.int .u64 y3) (.slice sa sn sc) (.int .i64 lo) (.int .i64 hi)
  nod0 : NodeAt X A0 (.agg #[.int .i64 z, .int .u64 y0, .int .u64 y1, .int .u64 y2, .int .u64 y3, .slice sa sn sc, .int .i64 lo, .int .i64 hi]) x
  blk1 : Blk X b1 (.int .i64 qz) (.int .u64 qy0) (.int .u64 qy1) (.int .u64 qy2) (.int .u64 qy3) (.slice qsa qsn qsc) (.int .i64 qlo) (.int .i64 qhi)
  nod1 : NodeAt X A1 (.agg #[.int .i64 qz, .int .u64 qy0, .int .u64 qy1, .int .u64 qy2, .int .u64 qy3, .slice qsa qsn qsc, .int .i64 qlo, .int .i64 qhi]) y
section
variable {w X Y : World} {b0 b1 : Nat} {A0 A1 : Nat → Prop} {x y : Nd} {z y0 y1 y2 y3 : Int} {sa : Option Addr} {sn sc : Nat} {lo hi : Int} {qz qy0 qy1 qy2 qy3 : Int} {qsa : Option Addr} {qsn qsc : Nat} {qlo qhi : Int}
theorem TK.later (k : TK w b0 A0 z y0 y1 y2 y3 sa sn sc lo hi x b1 A1 qz qy0 qy1 qy2 qy3 qsa qsn qsc qlo qhi y X) (hb : Below X.heap.size X Y) : TK w b0 A0 z y0 y1 y2 y3 sa sn sc lo hi x b1 A1 qz qy0 qy1 qy2 qy3 qsa qsn qsc qlo qhi y Y :=
  ⟨k.below.trans (hb.mono k.below.size), k.blk0.later hb, k.nod0.later hb, k.blk1.later hb, k.nod1.later hb⟩
theorem TK.drew (k : TK w b0 A0 z y0 y1 y2 y3 sa sn sc lo hi x b1 A1 qz qy0 qy1 qy2 qy3 qsa qsn qsc qlo qhi y X) : TK w b0 A0 z y0 y1 y2 y3 sa sn sc lo hi x b1 A1 qz qy0 qy1 qy2 qy3 qsa qsn qsc qlo qhi y X.drew :=
  ⟨k.below.drew, k.blk0.drew, k.nod0.drew, k.blk1.drew, k.nod1.drew⟩
theorem TK.alloc (k : TK w b0 A0 z y0 y1 y2 y3 sa sn sc lo hi x b1 A1 qz qy0 qy1 qy2 qy3 qsa qsn qsc qlo qhi y X) (o : Obj) : TK w b0 A0 z y0 y1 y2 y3 sa sn sc lo hi x b1 A1 qz qy0 qy1 qy2 qy3 qsa qsn qsc qlo qhi y (X.alloc o) := k.later ((Below.refl _ X).alloc (Nat.le_refl _) o)
theorem TK.cells (k : TK w b0 A0 z y0 y1 y2 y3 sa sn sc lo hi x b1 A1 qz qy0 qy1 qy2 qy3 qsa qsn qsc qlo qhi y X) : (X.cell? ⟨b0, 0, none⟩ = some (.int .i64 z) ∧ X.cell? ⟨b0, 1, none⟩ = some (.int .u64 y0) ∧ X.cell? ⟨b0, 2, none⟩ = some (.int .u64 y1) ∧ X.cell? ⟨b0, 3, none⟩ = some (.int .u64 y2) ∧ X.cell? ⟨b0, 4, none⟩ = some (.int .u64 y3) ∧ X.cell? ⟨b0, 5, none⟩ = some (.slice sa sn sc) ∧ X.cell? ⟨b0, 6, none⟩ = some (.int .i64 lo) ∧ X.cell? ⟨b0, 7, none⟩ = some (.int .i64 hi)) ∧ (X.cell? ⟨b1, 0, none⟩ = some (.int .i64 qz) ∧ X.cell? ⟨b1, 1, none⟩ = some (.int .u64 qy0) ∧ X.cell? ⟨b1, 2, none⟩ = some (.int .u64 qy1) ∧ X.cell? ⟨b1, 3, none⟩ = some (.int .u64 qy2) ∧ X.cell? ⟨b1, 4, none⟩ = some (.int .u64 qy3) ∧ X.cell? ⟨b1, 5, none⟩ = some (.slice qsa qsn qsc) ∧ X.cell? ⟨b1, 6, none⟩ = some (.int .i64 qlo) ∧ X.cell? ⟨b1, 7, none⟩ = some (.int .i64 qhi)) := ⟨k.blk0.cells, k.blk1.cells⟩
theorem TK.held (k : TK w b0 A0 z y0 y1 y2 y3 sa sn sc lo hi x b1 A1 qz qy0 qy1 qy2 qy3 qsa qsn qsc qlo qhi y X) : X.cell? ⟨b0, 0, none⟩ = some (.int .i64 z) ∧ X.cell? ⟨b0, 1, none⟩ = some (.int .u64 y0) ∧ X.cell? ⟨b0, 2, none⟩ = some (.int .u64 y1) ∧ X.cell? ⟨b0, 3, none⟩ = some (.int .u64 y2) ∧ X.cell? ⟨b0, 4, none⟩ = some (.int .u64 y3) ∧ X.cell? ⟨b0, 5, none⟩ = some (.slice sa sn sc) ∧ X.cell? ⟨b0, 6, none⟩ = some (.int .i64 lo) ∧ X.cell? ⟨b0, 7, none⟩ = some (.int .i64 hi) ∧ X.cell? ⟨b1, 0, none⟩ = some (.int .i64 qz) ∧ X.cell? ⟨b1, 1, none⟩ = some (.int .u64 qy0) ∧ X.cell? ⟨b1, 2, none⟩ = some (.int .u64 qy1) ∧ X.cell? ⟨b1, 3, none⟩ = some (.int .u64 qy2) ∧ X.cell? ⟨b1, 4, none⟩ = some (.int .u64 qy3) ∧ X.cell? ⟨b1, 5, none⟩ = some (.slice qsa qsn qsc) ∧ X.cell? ⟨b1, 6, none⟩ = some (.int .i64 qlo) ∧ X.cell? ⟨b1, 7, none⟩ = some (.int .i64 qhi) ∧ TK w b0 A0 z y0 y1 y2 y3 sa sn sc lo hi x b1 A1 qz qy0 qy1 qy2 qy3 qsa qsn qsc qlo qhi y X := by
  obtain ⟨⟨h0, h1, h2, h3, h4, h5, h6, h7⟩, l0, l1, l2, l3, l4, l5, l6, l7⟩ := k.cells
  exact ⟨h0, h1, h2, h3, h4, h5, h6, h7, l0, l1, l2, l3, l4, l5, l6, l7, k⟩
end

end Go.Proofs.Ytjlihidmohokhaa

namespace Go.Proofs.Ytjlihidmohokhaa
open Go.RowKit Go.Proofs.Ytjlihidmohokhaa.Gl

theorem block_cell {X : World} {bb : Nat} {cs : Array Value} {t : TypeId} (h : X.heap[bb]? = some (.cells cs t)) (i : Nat) : X.cell? ⟨bb, i, none⟩ = cs[i]? := by
  simp [World.cell?, h]
theorem block_new (X : World) (o : Obj) : (X.alloc o).heap[X.heap.size]? = some o := by
  show (X.heap.push o)[X.heap.size]? = some o
  simp
theorem block_later {X Y : World} {o : Obj} (hb : Below (X.alloc o).heap.size (X.alloc o) Y) : Y.heap[X.heap.size]? = some o :=
  (hb.block X.heap.size (by simp)).trans (block_new X o)
theorem block_newD (X : World) (o : Obj) : (X.alloc o).drew.heap[X.heap.size]? = some o := block_new X o
theorem block_laterD {X Y : World} {o : Obj} (hb : Below (X.alloc o).drew.heap.size (X.alloc o).drew Y) : Y.heap[X.heap.size]? = some o :=
  (hb.block X.heap.size (by show _ < (X.alloc o).heap.size; simp)).trans (block_new X o)
theorem block_keep {X Y : World} {bb : Nat} {o : Obj} (h : X.heap[bb]? = some o) (hb : Below X.heap.size X Y) : Y.heap[bb]? = some o :=
  (hb.block bb (Array.getElem?_eq_some_iff.1 h).1).trans h
/-- a node of some kind over a list of parts -/
theorem over_at {X : World} {A : Nat → Prop} {kv : Value} {l : List Nd} {k lo hi : Int} (h : KidsAt X A kv l) : NodeAt X A (.agg #[.int .i64 k, .int .u64 0, .int .u64 0, .int .u64 0, .int .u64 0, kv, .int .i64 lo, .int .i64 hi]) (.mk k none_ l lo hi) := by
  have g := h.shut k none_ lo hi
  unfold nodeV at g
  rw [show word none_ 0 = 0 from word_none 0, show word none_ 1 = 0 from word_none 1, show word none_ 2 = 0 from word_none 2, show word none_ 3 = 0 from word_none 3] at g
  exact g
theorem kids_one {X : World} {bb : Nat} {t : TypeId} {a0 a1 a2 a3 a4 a5 a6 a7 : Value} {xa : Nd} (h : X.heap[bb]? = some (.cells #[a0, a1, a2, a3, a4, a5, a6, a7] t)) (ha : NodeAt X (fun _ => True) (.agg #[a0, a1, a2, a3, a4, a5, a6, a7]) xa) : KidsAt X (fun _ => True) (.slice (some ⟨bb, 0, none⟩) 1 1) [xa] := by
  have hcell := block_cell h
  refine ⟨some ⟨bb, 0, none⟩, 1, [.agg #[a0, a1, a2, a3, a4, a5, a6, a7]], rfl, rfl, Nat.le_refl _, fun _ => ⟨bb, 0, rfl, trivial, fun j v hj => ?_⟩, fun j v d hj hd => ?_⟩
  · match j, hj with
    | 0, hj =>
      simp at hj
      subst hj
      exact ⟨a0, a1, a2, a3, a4, a5, a6, a7, rfl, hcell 0, hcell 1, hcell 2, hcell 3, hcell 4, hcell 5, hcell 6, hcell 7⟩
  · match j, hj, hd with
    | 0, hj, hd =>
      simp at hj hd
      subst hj; subst hd
      exact ha
theorem kids_two {X : World} {bb : Nat} {t : TypeId} {a0 a1 a2 a3 a4 a5 a6 a7 b0 b1 b2 b3 b4 b5 b6 b7 : Value} {xa xb : Nd} (h : X.heap[bb]? = some (.cells #[a0, a1, a2, a3, a4, a5, a6, a7, b0, b1, b2, b3, b4, b5, b6, b7] t)) (ha : NodeAt X (fun _ => True) (.agg #[a0, a1, a2, a3, a4, a5, a6, a7]) xa) (hb : NodeAt X (fun _ => True) (.agg #[b0, b1, b2, b3, b4, b5, b6, b7]) xb) : KidsAt X (fun _ => True) (.slice (some ⟨bb, 0, none⟩) 2 2) [xa, xb] := by
  have hcell := block_cell h
  refine ⟨some ⟨bb, 0, none⟩, 2, [.agg #[a0, a1, a2, a3, a4, a5, a6, a7], .agg #[b0, b1, b2, b3, b4, b5, b6, b7]], rfl, rfl, Nat.le_refl _, fun _ => ⟨bb, 0, rfl, trivial, fun j v hj => ?_⟩, fun j v d hj hd => ?_⟩
  · match j, hj with
    | 0, hj =>
      simp at hj
      subst hj
      exact ⟨a0, a1, a2, a3, a4, a5, a6, a7, rfl, hcell 0, hcell 1, hcell 2, hcell 3, hcell 4, hcell 5, hcell 6, hcell 7⟩
    | 1, hj =>
      simp at hj
      subst hj
      exact ⟨b0, b1, b2, b3, b4, b5, b6, b7, rfl, hcell 8, hcell 9, hcell 10, hcell 11, hcell 12, hcell 13, hcell 14, hcell 15⟩
  · match j, hj, hd with
    | 0, hj, hd =>
      simp at hj hd
      subst hj; subst hd
      exact ha
    | 1, hj, hd =>
      simp at hj hd
      subst hj; subst hd
      exact hb
theorem kids_three {X : World} {bb : Nat} {t : TypeId} {a0 a1 a2 a3 a4 a5 a6 a7 b0 b1 b2 b3 b4 b5 b6 b7 c0 c1 c2 c3 c4 c5 c6 c7 : Value} {xa xb xc : Nd} (h : X.heap[bb]? = some (.cells #[a0, a1, a2, a3, a4, a5, a6, a7, b0, b1, b2, b3, b4, b5, b6, b7, c0, c1, c2, c3, c4, c5, c6, c7] t)) (ha : NodeAt X (fun _ => True) (.agg #[a0, a1, a2, a3, a4, a5, a6, a7]) xa) (hb : NodeAt X (fun _ => True) (.agg #[b0, b1, b2, b3, b4, b5, b6, b7]) xb) (hc : NodeAt X (fun _ => True) (.agg #[c0, c1, c2, c3, c4, c5, c6, c7]) xc) : KidsAt X (fun _ => True) (.slice (some ⟨bb, 0, none⟩) 3 3) [xa, xb, xc] := by
  have hcell := block_cell h
  refine ⟨some ⟨bb, 0, none⟩, 3, [.agg #[a0, a1, a2, a3, a4, a5, a6, a7], .agg #[b0, b1, b2, b3, b4, b5, b6, b7], .agg #[c0, c1, c2, c3, c4, c5, c6, c7]], rfl, rfl, Nat.le_refl _, fun _ => ⟨bb, 0, rfl, trivial, fun j v hj => ?_⟩, fun j v d hj hd => ?_⟩
  · match j, hj with
    | 0, hj =>
      simp at hj
      subst hj
      exact ⟨a0, a1, a2, a3, a4, a5, a6, a7, rfl, hcell 0, hcell 1, hcell 2, hcell 3, hcell 4, hcell 5, hcell 6, hcell 7⟩
    | 1, hj =>
      simp at hj
      subst hj
      exact ⟨b0, b1, b2, b3, b4, b5, b6, b7, rfl, hcell 8, hcell 9, hcell 10, hcell 11, hcell 12, hcell 13, hcell 14, hcell 15⟩
    | 2, hj =>
      simp at hj
      subst hj
      exact ⟨c0, c1, c2, c3, c4, c5, c6, c7, rfl, hcell 16, hcell 17, hcell 18, hcell 19, hcell 20, hcell 21, hcell 22, hcell 23⟩
  · match j, hj, hd with
    | 0, hj, hd =>
      simp at hj hd
      subst hj; subst hd
      exact ha
    | 1, hj, hd =>
      simp at hj hd
      subst hj; subst hd
      exact hb
    | 2, hj, hd =>
      simp at hj hd
      subst hj; subst hd
      exact hc

end Go.Proofs.Ytjlihidmohokhaa

namespace Go.Proofs.Ytjlihidmohokhaa
open Go.RowKit Go.Proofs.Ytjlihidmohokhaa.Gl

theorem row_keep {X Y : World} {B : Nat} {t : TypeId} {z n : Nat} {v : Value} {cs : List Value} (h : X.ownsRow B t z v n cs) (hb : ∀ b, B ≤ b → b < X.heap.size → Y.heap[b]? = X.heap[b]?) : Y.ownsRow B t z v n cs := by
  refine ⟨h.1, ?_⟩
  rcases h.2 with hn | ⟨u, cap, cur, hv, hg, hh, rest⟩
  · exact Or.inl hn
  · exact Or.inr ⟨u, cap, cur, hv, hg, by rw [hb u hg (Array.getElem?_eq_some_iff.1 hh).1]; exact hh, rest⟩
/-- a node in a block of its own; behind it a node with a list of k copies of the first -/
structure TC (w : World) (b0 : Nat) (z y0 y1 y2 y3 : Int) (sa : Option Addr) (sn sc : Nat) (lo hi : Int) (x : Nd) (a : Option Addr) (k cap : Nat) (X : World) : Prop where
  below : Below w.heap.size w X
  base : w.heap.size ≤ b0
  blk0 : Blk X b0 (.int .i64 z) (.int .u64 y0) (.int .u64 y1) (.int .u64 y2) (.int .u64 y3) (.slice sa sn sc) (.int .i64 lo) (.int .i64 hi)
  nod0 : NodeAt X (· < b0) (.agg #[.int .i64 z, .int .u64 y0, .int .u64 y1, .int .u64 y2, .int .u64 y3, .slice sa sn sc, .int .i64 lo, .int .i64 hi]) x
  blk1 : Blk X (b0 + 1) (.int .i64 3) (.int .u64 0) (.int .u64 0) (.int .u64 0) (.int .u64 0) (.slice a k cap) (.int .i64 0) (.int .i64 0)
  own : X.ownsRow (b0 + 1 + 1) 26 8 (.slice a k cap) k (cells8 (List.replicate k (.agg #[.int .i64 z, .int .u64 y0, .int .u64 y1, .int .u64 y2, .int .u64 y3, .slice sa sn sc, .int .i64 lo, .int .i64 hi])))
section
variable {w X Y : World} {b0 k cap : Nat} {x : Nd} {a : Option Addr} {z y0 y1 y2 y3 : Int} {sa : Option Addr} {sn sc : Nat} {lo hi : Int}
theorem TC.later (h : TC w b0 z y0 y1 y2 y3 sa sn sc lo hi x a k cap X) (hb : Below X.heap.size X Y) : TC w b0 z y0 y1 y2 y3 sa sn sc lo hi x a k cap Y :=
  ⟨h.below.trans (hb.mono h.below.size), h.base, h.blk0.later hb, h.nod0.later hb, h.blk1.later hb, row_keep h.own fun b _ hlt => hb.block b hlt⟩
theorem TC.alloc (h : TC w b0 z y0 y1 y2 y3 sa sn sc lo hi x a k cap X) (o : Obj) : TC w b0 z y0 y1 y2 y3 sa sn sc lo hi x a k cap (X.alloc o) := h.later ((Below.refl _ X).alloc (Nat.le_refl _) o)
theorem TC.cells (h : TC w b0 z y0 y1 y2 y3 sa sn sc lo hi x a k cap X) : (X.cell? ⟨b0, 0, none⟩ = some (.int .i64 z) ∧ X.cell? ⟨b0, 1, none⟩ = some (.int .u64 y0) ∧ X.cell? ⟨b0, 2, none⟩ = some (.int .u64 y1) ∧ X.cell? ⟨b0, 3, none⟩ = some (.int .u64 y2) ∧ X.cell? ⟨b0, 4, none⟩ = some (.int .u64 y3) ∧ X.cell? ⟨b0, 5, none⟩ = some (.slice sa sn sc) ∧ X.cell? ⟨b0, 6, none⟩ = some (.int .i64 lo) ∧ X.cell? ⟨b0, 7, none⟩ = some (.int .i64 hi)) ∧ (X.cell? ⟨b0 + 1, 0, none⟩ = some (.int .i64 3) ∧ X.cell? ⟨b0 + 1, 1, none⟩ = some (.int .u64 0) ∧ X.cell? ⟨b0 + 1, 2, none⟩ = some (.int .u64 0) ∧ X.cell? ⟨b0 + 1, 3, none⟩ = some (.int .u64 0) ∧ X.cell? ⟨b0 + 1, 4, none⟩ = some (.int .u64 0) ∧ X.cell? ⟨b0 + 1, 5, none⟩ = some (.slice a k cap) ∧ X.cell? ⟨b0 + 1, 6, none⟩ = some (.int .i64 0) ∧ X.cell? ⟨b0 + 1, 7, none⟩ = some (.int .i64 0)) := ⟨h.blk0.cells, h.blk1.cells⟩
theorem TC.off (h : TC w b0 z y0 y1 y2 y3 sa sn sc lo hi x a k cap X) {j : Nat} (hj : j ≤ b0 + 1) : some j ≠ (Value.slice a k cap).ownBlock := fun e => by
  have := (h.own.lt j e.symm).1
  omega
/-- behind an append -/
theorem TC.grown (h : TC w b0 z y0 y1 y2 y3 sa sn sc lo hi x a k cap X) (hg : X.grownBy Y (Value.slice a k cap).ownBlock) : Below w.heap.size w Y ∧ Blk Y b0 (.int .i64 z) (.int .u64 y0) (.int .u64 y1) (.int .u64 y2) (.int .u64 y3) (.slice sa sn sc) (.int .i64 lo) (.int .i64 hi) ∧ NodeAt Y (· < b0) (.agg #[.int .i64 z, .int .u64 y0, .int .u64 y1, .int .u64 y2, .int .u64 y3, .slice sa sn sc, .int .i64 lo, .int .i64 hi]) x ∧ Blk Y (b0 + 1) (.int .i64 3) (.int .u64 0) (.int .u64 0) (.int .u64 0) (.int .u64 0) (.slice a k cap) (.int .i64 0) (.int .i64 0) := by
  refine ⟨Below.grown h.below hg h.below.size fun j hj => ?_, h.blk0.keep (hg.block b0 h.blk0.lt (h.off (by omega))), h.nod0.keep fun b hA hlt => ⟨hg.block b hlt (h.off (by have : b < b0 := hA; omega)), hA⟩, h.blk1.keep (hg.block (b0 + 1) h.blk1.lt (h.off (Nat.le_refl _)))⟩
  have := (h.own.lt j hj).1
  have := h.base
  omega
/-- behind the store of what append gave -/
theorem TC.step {a' : Option Addr} {cap' : Nat} (h : TC w b0 z y0 y1 y2 y3 sa sn sc lo hi x a k cap X) (hg : X.grownBy Y (Value.slice a k cap).ownBlock) (ho : Y.ownsRow (b0 + 1 + 1) 26 8 (.slice a' (k + 1) cap') (k + 1) (cells8 (List.replicate (k + 1) (.agg #[.int .i64 z, .int .u64 y0, .int .u64 y1, .int .u64 y2, .int .u64 y3, .slice sa sn sc, .int .i64 lo, .int .i64 hi])))) : TC w b0 z y0 y1 y2 y3 sa sn sc lo hi x a' (k + 1) cap' (Y.setCell ⟨b0 + 1, 5, none⟩ (.slice a' (k + 1) cap')) := by
  obtain ⟨h1, h2, h3, h4⟩ := h.grown hg
  refine ⟨h1.setCell (by show w.heap.size ≤ b0 + 1; have := h.base; omega) _, h.base, h2.other (by omega), h3.keep fun b hA _ => ⟨heap_setCell_other Y ⟨b0 + 1, 5, none⟩ b _ (by have : b < b0 := hA; show b ≠ b0 + 1; omega), hA⟩, ?_, row_keep ho fun b hb _ => heap_setCell_other Y ⟨b0 + 1, 5, none⟩ b _ (by show b ≠ b0 + 1; omega)⟩
  exact heap_setCell_same Y (b0 + 1) 5 _ 26 _ h4
theorem TC.kids (h : TC w b0 z y0 y1 y2 y3 sa sn sc lo hi x a k cap X) : KidsAt X (fun _ => True) (.slice a k cap) (List.replicate k x) := by
  have he : ∀ u ∈ List.replicate k (Value.agg #[.int .i64 z, .int .u64 y0, .int .u64 y1, .int .u64 y2, .int .u64 y3, .slice sa sn sc, .int .i64 lo, .int .i64 hi]), Eight u := fun u hu => by
    rw [List.eq_of_mem_replicate hu]
    exact h.nod0.eight
  rcases h.own.2 with ⟨hv, hn⟩ | ⟨u, c, cur, hv, hg, hh, hnc, hcm, hcs, hct⟩
  · rw [hv, hn]
    exact KidsAt.nil X _
  · refine ⟨some ⟨u, 0, none⟩, c, List.replicate k (.agg #[.int .i64 z, .int .u64 y0, .int .u64 y1, .int .u64 y2, .int .u64 y3, .slice sa sn sc, .int .i64 lo, .int .i64 hi]), by rw [hv, List.length_replicate], by simp, by rw [List.length_replicate]; exact hnc, fun _ => ⟨u, 0, rfl, trivial, fun j y hy => ?_⟩, fun j y d hy hd => ?_⟩
    · have hy1 : y = .agg #[.int .i64 z, .int .u64 y0, .int .u64 y1, .int .u64 y2, .int .u64 y3, .slice sa sn sc, .int .i64 lo, .int .i64 hi] := List.eq_of_mem_replicate (List.mem_of_getElem? hy)
      have hc : ∀ i, i < 8 → ∀ c, [.int .i64 z, .int .u64 y0, .int .u64 y1, .int .u64 y2, .int .u64 y3, .slice sa sn sc, .int .i64 lo, .int .i64 hi][i]? = some c → X.cell? ⟨u, 0 + j * 8 + i, none⟩ = some c := by
        intro i hi c hci
        have h1 := cells8_at _ he j i _ hy hi
        have h2 := h.own.cells (g := u) (by rw [hv]; rfl) (j * 8 + i) c (by rw [h1, hy1]; exact hci)
        have h3 : (⟨u, 0, none⟩ : Addr).add (j * 8 + i) = ⟨u, 0 + j * 8 + i, none⟩ := by
          unfold Addr.add
          split <;> simp_all
        rw [h3] at h2
        exact h2
      exact ⟨_, _, _, _, _, _, _, _, hy1, hc 0 (by decide) _ rfl, hc 1 (by decide) _ rfl, hc 2 (by decide) _ rfl, hc 3 (by decide) _ rfl, hc 4 (by decide) _ rfl, hc 5 (by decide) _ rfl, hc 6 (by decide) _ rfl, hc 7 (by decide) _ rfl⟩
    · rw [List.eq_of_mem_replicate (List.mem_of_getElem? hy), List.eq_of_mem_replicate (List.mem_of_getElem? hd)]
      exact h.nod0.keep fun _ _ _ => ⟨rfl, trivial⟩
end
/-- what 'append' of one more copy does -/
theorem wpList_append_same (w : World) {ops : Array Oper} {rest : List Oper} {o : Oper} {ac : Act} {Q : Exit → Act → World → Prop} (hw : Region.wanted o (yielded ops ac.tmps) = true) (s t : Operand)
    (ho : o.op = .call { callee := .builtin .append, args := #[s, t], argTypes := #[24, 24] }) (B b : Nat) (a : Option Addr) (k cap : Nat) (c0 c1 c2 c3 c4 c5 c6 c7 : Value) (hs : ac.eval s = .slice a k cap) (hx : ac.eval t = .slice (some ⟨b, 0, none⟩) 1 1)
    (hl : w.ownsRow B 26 8 (.slice a k cap) k (cells8 (List.replicate k (.agg #[c0, c1, c2, c3, c4, c5, c6, c7])))) (he : Eight (.agg #[c0, c1, c2, c3, c4, c5, c6, c7])) (hcell : ∀ j u, [c0, c1, c2, c3, c4, c5, c6, c7][j]? = some u → w.cell? ((⟨b, 0, none⟩ : Addr).add j) = some u) (hlen : k < 1048576) (hB : B ≤ w.heap.size)
    (h : ∀ a' cap' w', w'.ownsRow B 26 8 (.slice a' (k + 1) cap') (k + 1) (cells8 (List.replicate (k + 1) (.agg #[c0, c1, c2, c3, c4, c5, c6, c7]))) → w.grownBy w' (Value.slice a k cap).ownBlock → wpList Try.prog ops Q rest (ac.put o.dst (.slice a' (k + 1) cap')) w') : wpList Try.prog ops Q (o :: rest) ac w := by
  refine BigFrame.wpList_want hw fun _ hK => ?_
  obtain ⟨i0, hi, hz0, hz1, hz2⟩ := info_parts Try.infoNode
  have h1 : ∀ u ∈ [c0, c1, c2, c3, c4, c5, c6, c7], u.oneCell' = true := by
    obtain ⟨e0, e1, e2, e3, e4, e5, e6, e7, hv, hu⟩ := he
    injection hv with hv
    simp at hv
    obtain ⟨rfl, rfl, rfl, rfl, rfl, rfl, rfl, rfl⟩ := hv
    exact hu
  obtain ⟨v', w', hr, h2, h3, _, h5⟩ := run_append_own_at (P := Try.prog) w B 24 o.type 26 i0 (.agg #[.int .i64 0, .int .u64 0, .int .u64 0, .int .u64 0, .int .u64 0, .slice none 0 0, .int .i64 0, .int .i64 0]) 8 80 Try.underlying24 hi hz0 hz1 hz2 rfl (by decide) (.slice a k cap) k (cells8 (List.replicate k (.agg #[c0, c1, c2, c3, c4, c5, c6, c7]))) hl ⟨b, 0, none⟩ 1 1 [c0, c1, c2, c3, c4, c5, c6, c7] rfl hcell h1 (by unfold maxLen; omega) (by omega) hB
  have h4 : cells8 (List.replicate k (.agg #[c0, c1, c2, c3, c4, c5, c6, c7])) ++ [c0, c1, c2, c3, c4, c5, c6, c7] = cells8 (List.replicate (k + 1) (.agg #[c0, c1, c2, c3, c4, c5, c6, c7])) := by
    rw [List.replicate_succ', cells8_app]
    rfl
  rw [h4] at h2
  have hv' : ∃ a' cap', v' = .slice a' (k + 1) cap' := by
    rcases h2.2 with ⟨_, hn⟩ | ⟨u, c, cur, hv, _⟩
    · omega
    · exact ⟨_, _, hv⟩
  obtain ⟨a', cap', rfl⟩ := hv'
  unfold Oper.wp execOp
  simp only [ho, resolve, invoke, builtin, Sem.run_bind, Sem.run_pure, Result.andThen_ok, List.map_toArray, List.map_cons, List.map_nil, hs, hx, hr]
  exact hK _ _ (h a' cap' w' h2 h3)

end Go.Proofs.Ytjlihidmohokhaa

namespace Go.Proofs.Ytjlihidmohokhaa.Gl

theorem sizes_same (x : Nd) (m : Nat) : sizes (List.replicate m x) = m * sizeN x := by
  induction m with
  | zero => simp [sizes]
  | succ m ih => rw [List.replicate_succ, sizes, ih, Nat.add_mul]; omega
theorem cnts_same (x : Nd) (m : Nat) : cnts (List.replicate m x) = m * cntN x := by
  induction m with
  | zero => simp [cnts]
  | succ m ih => rw [List.replicate_succ, cnts, ih, Nat.add_mul]; omega
def starN (x : Nd) : Nd := .mk 5 none_ [x] 0 (-1)
def thenN (x : Nd) : Nd := .mk 3 none_ [x, starN x] 0 0
def moreN (x : Nd) : Nd := .mk 4 none_ [.mk 1 none_ [] 0 0, thenN x] 0 0
theorem time_right {x : Nd} {m : Nat} (hm : 2 ≤ m) (hm8 : m ≤ 8) (h1 : withinN x 100 = true) (h2 : sizeN x ≤ 500) : rightN (.mk 5 none_ [x] m m) = true := by
  have hw := right_times (lo := m) (hi := m) (by unfold okTimes; simp; omega) h1
  have hs : sizeN (.mk 5 none_ [x] m m) ≤ 20000 := by
    rw [sizeN, show reps 5 (m : Int) m = m from by unfold reps; rw [if_pos rfl]; omega]
    unfold sizes sizes
    rw [Nat.add_zero]
    have := Nat.mul_le_mul hm8 h2
    omega
  unfold rightN
  rw [within_mono _ _ 200 (by omega) hw, decide_eq_true hs]
  rfl
theorem same_right {x : Nd} {m : Nat} (hm : 2 ≤ m) (hm8 : m ≤ 8) (h1 : withinN x 100 = true) (h2 : sizeN x ≤ 500) (h3 : cntN x ≤ 100) : rightN (.mk 3 none_ (List.replicate m x) 0 0) = true ∧ cntN (.mk 3 none_ (List.replicate m x) 0 0) ≤ 1048576 := by
  have hw := right_of (k := 3) (l := List.replicate m x) (m := 100) (Or.inl rfl) (by simpa using hm) (fun d hd => by rw [List.eq_of_mem_replicate hd]; exact h1)
  refine ⟨?_, ?_⟩
  · have hs : sizeN (.mk 3 none_ (List.replicate m x) 0 0) ≤ 20000 := by
      rw [size_cat 3 (by decide), sizes_same]
      have := Nat.mul_le_mul hm8 h2
      omega
    unfold rightN
    rw [within_mono _ _ 200 (by omega) hw, decide_eq_true hs]
    rfl
  · rw [cntN, cnts_same]
    have := Nat.mul_le_mul hm8 h3
    omega
theorem star_right {x : Nd} (h1 : withinN x 100 = true) (h2 : sizeN x ≤ 500) (h3 : cntN x ≤ 100) : withinN (starN x) 101 = true ∧ sizeN (starN x) ≤ 501 ∧ cntN (starN x) ≤ 101 ∧ rightN (starN x) = true := by
  have hw : withinN (starN x) 101 = true := right_times (lo := 0) (hi := -1) (by decide) h1
  have hs : sizeN (starN x) ≤ 501 := by
    unfold starN
    rw [sizeN, show reps 5 0 (-1) = 1 from by decide]
    unfold sizes sizes
    omega
  refine ⟨hw, hs, ?_, ?_⟩
  · unfold starN
    rw [cntN]
    unfold cnts cnts
    omega
  · unfold rightN
    rw [within_mono _ _ 200 (by omega) hw, decide_eq_true (show sizeN (starN x) ≤ 20000 by omega)]
    rfl
theorem more_right {x : Nd} (h1 : withinN x 100 = true) (h2 : sizeN x ≤ 500) (h3 : cntN x ≤ 100) : rightN (moreN x) = true ∧ cntN (moreN x) ≤ 1048576 := by
  obtain ⟨g1, g2, g3, _⟩ := star_right h1 h2 h3
  have hc : withinN (thenN x) 102 = true := right_of (k := 3) (l := [x, starN x]) (m := 101) (Or.inl rfl) (by simp) (fun d hd => by
    simp at hd
    rcases hd with rfl | rfl
    · exact within_mono _ _ 101 (by omega) h1
    · exact g1)
  have he : withinN (.mk 1 none_ [] 0 0) 102 = true := by decide +kernel
  have hw : withinN (moreN x) 103 = true := right_of (k := 4) (l := [.mk 1 none_ [] 0 0, thenN x]) (m := 102) (Or.inr rfl) (by simp) (fun d hd => by
    simp at hd
    rcases hd with rfl | rfl
    · exact he
    · exact hc)
  have hs : sizeN (moreN x) ≤ 20000 := by
    unfold moreN thenN
    rw [size_cat 4 (by decide)]
    unfold sizes sizes sizes
    rw [size_cat 1 (by decide), size_cat 3 (by decide)]
    unfold sizes sizes sizes
    omega
  refine ⟨?_, ?_⟩
  · unfold rightN
    rw [within_mono _ _ 200 (by omega) hw, decide_eq_true hs]
    rfl
  · unfold moreN thenN
    rw [cntN]
    unfold cnts cnts cnts
    rw [cntN, cntN]
    unfold cnts cnts cnts
    omega

end Go.Proofs.Ytjlihidmohokhaa.Gl

namespace Go.Proofs.Ytjlihidmohokhaa
open Go.RowKit Go.Proofs.Ytjlihidmohokhaa.Gl

theorem time_same {s : Tx} {x : Nd} {m : Nat} (hm : 2 ≤ m) (hm8 : m ≤ 8) (h1 : withinN x 100 = true) (h2 : sizeN x ≤ 500) (h3 : cntN x ≤ 100) : wholeB s (.mk 5 none_ [x] m m) = wholeB s (.mk 3 none_ (List.replicate m x) 0 0) := by
  rw [Bool.eq_iff_iff, wholeB_is, wholeB_is, times_is]
  simp [time_right hm hm8 h1 h2, (same_right hm hm8 h1 h2 h3).1]
theorem star_more {s : Tx} {x : Nd} (h1 : withinN x 100 = true) (h2 : sizeN x ≤ 500) (h3 : cntN x ≤ 100) : wholeB s (starN x) = wholeB s (moreN x) := by
  rw [Bool.eq_iff_iff, wholeB_is, wholeB_is, (star_right h1 h2 h3).2.2.2, (more_right h1 h2 h3).1]
  have := star_is s x
  unfold moreN thenN starN
  rw [this]
theorem block_newAt {X : World} {b : Nat} (hb : b = X.heap.size) (o : Obj) : (X.alloc o).heap[b]? = some o := by subst hb; exact block_new X o
theorem alloc_keep {X : World} {b : Nat} {o : Obj} (h : X.heap[b]? = some o) (o' : Obj) : (X.alloc o').heap[b]? = some o := block_keep h ((Below.refl _ X).alloc (Nat.le_refl _) o')

set_option maxHeartbeats 8000000 in
theorem nfaTimes_any (e s : Tx) (n : Int) (w : World) (he : e.length ≤ 281474976710656) (hs : s.length ≤ 281474976710656) :
    Calls Try.prog 6 #[S e, S s, .int .i64 n] w fun en w' => en = .returned (.bool true) ∧ Below w.heap.size w w' := by
  have HSM := hidden (fun (X : World) => small_any e X he)
  unfold S at HSM ⊢
  go_enter Try.func6, Try.ntmps6
  go_wp2_with fail
  refine (alive_any _).mono ?_
  rintro en w1 ⟨rfl, hb1⟩
  have HB1 := hidden hb1
  clear hb1
  go_wp2_with fail
  refine (HSM.out _).mono ?_
  rintro en w2 ⟨hb2, ha2⟩
  obtain ⟨vx, x, ok, rfl, hnx, hok⟩ := ha2
  obtain ⟨z, y0, y1, y2, y3, sa, sn, sc, lo, hi, rfl⟩ := hnx.shapeI
  have HB2 := hidden (HB1.out.trans (hb2.mono HB1.out.size))
  have HN2 := hidden (show NodeAt w2 (· < w2.heap.size) (.agg #[.int .i64 z, .int .u64 y0, .int .u64 y1, .int .u64 y2, .int .u64 y3, .slice sa sn sc, .int .i64 lo, .int .i64 hi]) x from hnx.keep fun _ _ hlt => ⟨rfl, hlt⟩)
  have HZ2 := hidden (Blk.new w2 (.int .i64 z) (.int .u64 y0) (.int .u64 y1) (.int .u64 y2) (.int .u64 y3) (.slice sa sn sc) (.int .i64 lo) (.int .i64 hi))
  clear hb2 hnx
  cases ok with
  | false =>
    clear hok
    go_wp2_with fail
    go_ret
    exact ⟨rfl, by (with_reducible (repeat (first | exact HB2.out | apply bel_alloc | apply bel_put | apply bel_set | apply Below.drew | apply below_drewN | omega)))⟩
  | true =>
    have HOK := hidden (hok rfl).facts
    have hcx : cntN x ≤ 100 := (hok rfl).facts.2.2.2
    clear hok
    by_cases h1 : s.length ≤ 30
    · have h1' : ¬ (30 : Int) < s.length := by omega
      have h1d : decide ((30 : Int) < s.length) = false := decide_eq_false h1'
      by_cases h2 : n < 2
      · have h2d : decide (n < 2) = true := decide_eq_true h2
        go_wp2_with fail
        go_ret
        exact ⟨rfl, by (with_reducible (repeat (first | exact HB2.out | apply bel_alloc | apply bel_put | apply bel_set | apply Below.drew | apply below_drewN | omega)))⟩
      · have h2d : decide (n < 2) = false := decide_eq_false h2
        by_cases h3 : 8 < n
        · have h3d : decide (8 < n) = true := decide_eq_true h3
          go_wp2_with fail
          go_ret
          exact ⟨rfl, by (with_reducible (repeat (first | exact HB2.out | apply bel_alloc | apply bel_put | apply bel_set | apply Below.drew | apply below_drewN | omega)))⟩
        · have h3d : decide (8 < n) = false := decide_eq_false h3
          obtain ⟨m, rfl⟩ : ∃ m : Nat, n = m := ⟨n.toNat, by omega⟩
          have hm2 : 2 ≤ m := by omega
          have hm8 : m ≤ 8 := by omega
          go_wp2_with fail
          generalize hW5 : World.alloc _ _ = W5
          have HT5 := hidden (show TC w w2.heap.size z y0 y1 y2 y3 sa sn sc lo hi x none 0 0 W5 from ⟨by rw [← hW5]; (with_reducible (repeat (first | exact HB2.out | apply bel_alloc | apply bel_put | apply bel_set | apply Below.drew | apply below_drewN | omega))), HB2.out.size, by rw [← hW5]; (with_reducible (repeat (first | exact HZ2.out | exact Blk.newAt (by simp) | apply Blk.alloc | apply Blk.put | apply Blk.putOther | apply Blk.other | apply Blk.drewN | apply Blk.drew | omega))), by rw [← hW5]; (with_reducible (repeat (first | exact HN2.out | apply NodeAt.alloc | apply NodeAt.putN | apply NodeAt.other | apply NodeAt.putO | apply NodeAt.otherO | apply NodeAt.drewN | apply NodeAt.drew | omega))), by rw [← hW5]; exact Blk.newAt (by simp), World.ownsRow_nil _ _ _ _⟩)
          clear hW5 HSM HB1 HB2 HN2 HZ2 he hs h1' h1d h2d h3d h2 h3
          go_loopw [11] (fun i wr => ∃ (k : Nat) (a : Option Addr) (cap : Nat), i = .int .i64 k ∧ k ≤ m ∧ Hid (TC w w2.heap.size z y0 y1 y2 y3 sa sn sc lo hi x a k cap wr))
            (fun i _ => m - (intOf i).toNat)
          case atStart => exact ⟨0, none, 0, rfl, Nat.zero_le _, HT5.out⟩
          case round =>
            obtain ⟨k, a, cap, rfl, hk, HR⟩ := hrel
            clear HT5
            by_cases hlt : k < m
            · have hltI : (k : Int) < m := by omega
              obtain ⟨⟨z0, z1, z2, z3, z4, z5, z6, z7⟩, l0, l1, l2, l3, l4, l5, l6, l7⟩ := HR.out.cells
              have hsz : w2.heap.size + 1 + 1 ≤ wr.heap.size := HR.out.blk1.lt
              have HE := hidden HR.out.nod0.eight
              go_wp2_with (at_builtin; go_must (refine wpList_append_same _ (by go_simp) (.tmp 47) (.tmp 49) rfl (w2.heap.size + 1 + 1) _ a k cap (.int .i64 z) (.int .u64 y0) (.int .u64 y1) (.int .u64 y2) (.int .u64 y3) (.slice sa sn sc) (.int .i64 lo) (.int .i64 hi) rfl rfl (TC.alloc HR.out _).own HE.out (eight_new _ _ _ _ _ _ _ _ _ _ _ rfl) (by omega) (by simp; omega) ?_; intro a9 c9 w9 ho9 hg9; have HS9 := hidden (TC.step (TC.alloc HR.out _) hg9 ho9); have hB9 := ((TC.alloc HR.out _).grown hg9).2.2.2; have hc9 := hB9.cells.2.2.2.2.2.1; have hf9 := hB9.thawed.2.2.2.2.2.1; clear hB9 ho9 hg9))
              go_wp2_with fail
              go_roundw
              case rel => exact ⟨k + 1, _, _, by go_num, by omega, HS9.out⟩
              case measure => simp [intOf]; omega
            · obtain rfl : k = m := by omega
              obtain ⟨⟨z0, z1, z2, z3, z4, z5, z6, z7⟩, l0, l1, l2, l3, l4, l5, l6, l7⟩ := HR.out.cells
              go_upto_region 11 with fail
              generalize hW5 : World.alloc _ _ = W5
              have HK5 := hidden (show TC w w2.heap.size z y0 y1 y2 y3 sa sn sc lo hi x a k cap W5 by
                rw [← hW5]
                exact TC.alloc (TC.alloc HR.out _) _)
              have hz5 : W5.heap.size = wr.heap.size + 1 + 1 := by
                rw [← hW5]
                simp
              have B1 := hidden (show W5.heap[wr.heap.size]? = some (.cells #[.int .i64 z, .int .u64 y0, .int .u64 y1, .int .u64 y2, .int .u64 y3, .slice sa sn sc, .int .i64 lo, .int .i64 hi] 26) by
                rw [← hW5]
                exact alloc_keep (block_newAt rfl _) _)
              have B2 := hidden (show W5.heap[wr.heap.size + 1]? = some (.cells #[.int .i64 5, .int .u64 0, .int .u64 0, .int .u64 0, .int .u64 0, .slice (some ⟨wr.heap.size, 0, none⟩) 1 1, .int .i64 0, .int .i64 (-1)] 26) by
                rw [← hW5]
                exact block_newAt (by simp) _)
              clear hW5 z0 z1 z2 z3 z4 z5 z6 z7 l0 l1 l2 l3 l4 l5 l6 l7
              obtain ⟨z0, z1, z2, z3, z4, z5, z6, z7⟩ := HK5.out.blk0.cells
              obtain ⟨l0, l1, l2, l3, l4, l5, l6, l7⟩ := Blk.cells (show Blk W5 (wr.heap.size + 1) (.int .i64 5) (.int .u64 0) (.int .u64 0) (.int .u64 0) (.int .u64 0) (.slice (some ⟨wr.heap.size, 0, none⟩) 1 1) (.int .i64 0) (.int .i64 (-1)) from B2.out)
              go_upto_region 12 with fail
              generalize hW6 : World.alloc _ _ = W6
              have HK6 := hidden (show TC w w2.heap.size z y0 y1 y2 y3 sa sn sc lo hi x a k cap W6 by
                rw [← hW6]
                exact TC.alloc (TC.alloc (TC.alloc HK5.out _) _) _)
              have b1 : W6.heap[wr.heap.size]? = some (.cells #[.int .i64 z, .int .u64 y0, .int .u64 y1, .int .u64 y2, .int .u64 y3, .slice sa sn sc, .int .i64 lo, .int .i64 hi] 26) := by
                rw [← hW6]
                exact alloc_keep (alloc_keep (alloc_keep B1.out _) _) _
              have b2 : W6.heap[wr.heap.size + 1]? = some (.cells #[.int .i64 5, .int .u64 0, .int .u64 0, .int .u64 0, .int .u64 0, .slice (some ⟨wr.heap.size, 0, none⟩) 1 1, .int .i64 0, .int .i64 (-1)] 26) := by
                rw [← hW6]
                exact alloc_keep (alloc_keep (alloc_keep B2.out _) _) _
              have b3 : W6.heap[wr.heap.size + 1 + 1]? = some (.cells #[.int .i64 z, .int .u64 y0, .int .u64 y1, .int .u64 y2, .int .u64 y3, .slice sa sn sc, .int .i64 lo, .int .i64 hi, .int .i64 5, .int .u64 0, .int .u64 0, .int .u64 0, .int .u64 0, .slice (some ⟨wr.heap.size, 0, none⟩) 1 1, .int .i64 0, .int .i64 (-1)] 26) := by
                rw [← hW6]
                exact alloc_keep (alloc_keep (block_newAt hz5.symm _) _) _
              have b4 : W6.heap[wr.heap.size + 1 + 1 + 1]? = some (.cells #[.int .i64 1, .int .u64 0, .int .u64 0, .int .u64 0, .int .u64 0, .slice none 0 0, .int .i64 0, .int .i64 0, .int .i64 3, .int .u64 0, .int .u64 0, .int .u64 0, .int .u64 0, .slice (some ⟨wr.heap.size + 1 + 1, 0, none⟩) 2 2, .int .i64 0, .int .i64 0] 26) := by
                rw [← hW6]
                exact alloc_keep (block_newAt (by simp [hz5]) _) _
              have b5 : W6.heap[wr.heap.size + 1 + 1 + 1 + 1]? = some (.cells #[.int .i64 4, .int .u64 0, .int .u64 0, .int .u64 0, .int .u64 0, .slice (some ⟨wr.heap.size + 1 + 1 + 1, 0, none⟩) 2 2, .int .i64 0, .int .i64 0] 26) := by
                rw [← hW6]
                exact block_newAt (by simp [hz5]) _
              have hxN : NodeAt W6 (fun _ => True) (.agg #[.int .i64 z, .int .u64 y0, .int .u64 y1, .int .u64 y2, .int .u64 y3, .slice sa sn sc, .int .i64 lo, .int .i64 hi]) x := HK6.out.nod0.keep fun _ _ _ => ⟨rfl, trivial⟩
              have hsN : NodeAt W6 (fun _ => True) (.agg #[.int .i64 5, .int .u64 0, .int .u64 0, .int .u64 0, .int .u64 0, .slice (some ⟨wr.heap.size, 0, none⟩) 1 1, .int .i64 0, .int .i64 (-1)]) (starN x) := over_at (kids_one b1 hxN)
              have hcN : NodeAt W6 (fun _ => True) (.agg #[.int .i64 3, .int .u64 0, .int .u64 0, .int .u64 0, .int .u64 0, .slice (some ⟨wr.heap.size + 1 + 1, 0, none⟩) 2 2, .int .i64 0, .int .i64 0]) (thenN x) := over_at (kids_two b3 hxN hsN)
              have heN : NodeAt W6 (fun _ => True) (.agg #[.int .i64 1, .int .u64 0, .int .u64 0, .int .u64 0, .int .u64 0, .slice none 0 0, .int .i64 0, .int .i64 0]) (.mk 1 none_ [] 0 0) := over_at (KidsAt.nil W6 _)
              have hmN : NodeAt W6 (fun _ => True) (.agg #[.int .i64 4, .int .u64 0, .int .u64 0, .int .u64 0, .int .u64 0, .slice (some ⟨wr.heap.size + 1 + 1 + 1, 0, none⟩) 2 2, .int .i64 0, .int .i64 0]) (moreN x) := over_at (kids_two b4 heN hcN)
              have hd1 : TK w w2.heap.size (fun _ => True) z y0 y1 y2 y3 sa sn sc lo hi x (w2.heap.size + 1) (fun _ => True) 3 0 0 0 0 a k cap 0 0 (.mk 3 none_ (List.replicate k x) 0 0) W6 := ⟨HK6.out.below, HK6.out.blk0, hxN, HK6.out.blk1, over_at HK6.out.kids⟩
              have hd2 : TK w (wr.heap.size + 1) (fun _ => True) 5 0 0 0 0 (some ⟨wr.heap.size, 0, none⟩) 1 1 0 (-1) (starN x) (wr.heap.size + 1 + 1 + 1 + 1) (fun _ => True) 4 0 0 0 0 (some ⟨wr.heap.size + 1 + 1 + 1, 0, none⟩) 2 2 0 0 (moreN x) W6 := ⟨HK6.out.below, b2, hsN, b5, hmN⟩
              obtain ⟨D, hD⟩ : ∃ D : World → Prop, D = fun X => TK w w2.heap.size (fun _ => True) z y0 y1 y2 y3 sa sn sc lo hi x (w2.heap.size + 1) (fun _ => True) 3 0 0 0 0 a k cap 0 0 (.mk 3 none_ (List.replicate k x) 0 0) X ∧ TK w (wr.heap.size + 1) (fun _ => True) 5 0 0 0 0 (some ⟨wr.heap.size, 0, none⟩) 1 1 0 (-1) (starN x) (wr.heap.size + 1 + 1 + 1 + 1) (fun _ => True) 4 0 0 0 0 (some ⟨wr.heap.size + 1 + 1 + 1, 0, none⟩) 2 2 0 0 (moreN x) X := ⟨_, rfl⟩
              have HD := hidden (show D W6 by rw [hD]; exact ⟨hd1, hd2⟩)
              have HDB := hidden (show ∀ X, D X → Below w.heap.size w X from fun X h => by rw [hD] at h; exact h.1.below)
              have HDL := hidden (show ∀ X Y, D X → Below X.heap.size X Y → D Y from fun X Y h hb => by rw [hD] at h ⊢; exact ⟨h.1.later hb, h.2.later hb⟩)
              have HDd := hidden (show ∀ X, D X → D X.drew from fun X h => by rw [hD] at h ⊢; exact ⟨h.1.drew, h.2.drew⟩)
              have HDa := hidden (show ∀ X o, D X → D (X.alloc o) from fun X o h => by rw [hD] at h ⊢; exact ⟨h.1.alloc o, h.2.alloc o⟩)
              have HDC := hidden (show ∀ X, D X → X.cell? ⟨w2.heap.size, 0, none⟩ = some (.int .i64 z) ∧ X.cell? ⟨w2.heap.size, 1, none⟩ = some (.int .u64 y0) ∧ X.cell? ⟨w2.heap.size, 2, none⟩ = some (.int .u64 y1) ∧ X.cell? ⟨w2.heap.size, 3, none⟩ = some (.int .u64 y2) ∧ X.cell? ⟨w2.heap.size, 4, none⟩ = some (.int .u64 y3) ∧ X.cell? ⟨w2.heap.size, 5, none⟩ = some (.slice sa sn sc) ∧ X.cell? ⟨w2.heap.size, 6, none⟩ = some (.int .i64 lo) ∧ X.cell? ⟨w2.heap.size, 7, none⟩ = some (.int .i64 hi) ∧ X.cell? ⟨w2.heap.size + 1, 0, none⟩ = some (.int .i64 3) ∧ X.cell? ⟨w2.heap.size + 1, 1, none⟩ = some (.int .u64 0) ∧ X.cell? ⟨w2.heap.size + 1, 2, none⟩ = some (.int .u64 0) ∧ X.cell? ⟨w2.heap.size + 1, 3, none⟩ = some (.int .u64 0) ∧ X.cell? ⟨w2.heap.size + 1, 4, none⟩ = some (.int .u64 0) ∧ X.cell? ⟨w2.heap.size + 1, 5, none⟩ = some (.slice a k cap) ∧ X.cell? ⟨w2.heap.size + 1, 6, none⟩ = some (.int .i64 0) ∧ X.cell? ⟨w2.heap.size + 1, 7, none⟩ = some (.int .i64 0) ∧ X.cell? ⟨wr.heap.size + 1, 0, none⟩ = some (.int .i64 5) ∧ X.cell? ⟨wr.heap.size + 1, 1, none⟩ = some (.int .u64 0) ∧ X.cell? ⟨wr.heap.size + 1, 2, none⟩ = some (.int .u64 0) ∧ X.cell? ⟨wr.heap.size + 1, 3, none⟩ = some (.int .u64 0) ∧ X.cell? ⟨wr.heap.size + 1, 4, none⟩ = some (.int .u64 0) ∧ X.cell? ⟨wr.heap.size + 1, 5, none⟩ = some (.slice (some ⟨wr.heap.size, 0, none⟩) 1 1) ∧ X.cell? ⟨wr.heap.size + 1, 6, none⟩ = some (.int .i64 0) ∧ X.cell? ⟨wr.heap.size + 1, 7, none⟩ = some (.int .i64 (-1)) ∧ X.cell? ⟨wr.heap.size + 1 + 1 + 1 + 1, 0, none⟩ = some (.int .i64 4) ∧ X.cell? ⟨wr.heap.size + 1 + 1 + 1 + 1, 1, none⟩ = some (.int .u64 0) ∧ X.cell? ⟨wr.heap.size + 1 + 1 + 1 + 1, 2, none⟩ = some (.int .u64 0) ∧ X.cell? ⟨wr.heap.size + 1 + 1 + 1 + 1, 3, none⟩ = some (.int .u64 0) ∧ X.cell? ⟨wr.heap.size + 1 + 1 + 1 + 1, 4, none⟩ = some (.int .u64 0) ∧ X.cell? ⟨wr.heap.size + 1 + 1 + 1 + 1, 5, none⟩ = some (.slice (some ⟨wr.heap.size + 1 + 1 + 1, 0, none⟩) 2 2) ∧ X.cell? ⟨wr.heap.size + 1 + 1 + 1 + 1, 6, none⟩ = some (.int .i64 0) ∧ X.cell? ⟨wr.heap.size + 1 + 1 + 1 + 1, 7, none⟩ = some (.int .i64 0) ∧ D X from fun X h => by
                have h' := h
                rw [hD] at h'
                obtain ⟨⟨z0, z1, z2, z3, z4, z5, z6, z7⟩, l0, l1, l2, l3, l4, l5, l6, l7⟩ := h'.1.cells
                obtain ⟨⟨u0, u1, u2, u3, u4, u5, u6, u7⟩, v0, v1, v2, v3, v4, v5, v6, v7⟩ := h'.2.cells
                exact ⟨z0, z1, z2, z3, z4, z5, z6, z7, l0, l1, l2, l3, l4, l5, l6, l7, u0, u1, u2, u3, u4, u5, u6, u7, v0, v1, v2, v3, v4, v5, v6, v7, h⟩)
              obtain ⟨T, hT⟩ : ∃ T, wholeB s (.mk 3 none_ (List.replicate k x) 0 0) = T := ⟨_, rfl⟩
              obtain ⟨U, hU⟩ : ∃ U, wholeB s (moreN x) = U := ⟨_, rfl⟩
              have HMT := hidden (show ∀ X bb, D X → X.heap[bb]? = some (.cells #[.int .i64 z, .int .u64 y0, .int .u64 y1, .int .u64 y2, .int .u64 y3, .slice sa sn sc, .int .i64 lo, .int .i64 hi] 26) → Calls Try.prog 13 #[.agg #[.int .i64 5, .int .u64 0, .int .u64 0, .int .u64 0, .int .u64 0, .slice (some ⟨bb, 0, none⟩) 1 1, .int .i64 k, .int .i64 k], .string ⟨s.toArray⟩] X fun e w' => e = .returned (.bool T) ∧ D w' from fun X bb h hbb => by
                have h' := h
                rw [hD] at h'
                refine (nMatches_any _ _ s _ _ (over_at (kids_one hbb h'.1.nod0)) (by rw [cntN]; unfold cnts cnts; omega) (by omega)).mono fun e w7 g => ⟨?_, HDL.out _ _ h g.2⟩
                rw [g.1, time_same hm2 hm8 HOK.out.2.1 HOK.out.2.2.1 hcx, hT])
              have HMC := hidden (show ∀ X, D X → Calls Try.prog 13 #[.agg #[.int .i64 3, .int .u64 0, .int .u64 0, .int .u64 0, .int .u64 0, .slice a k cap, .int .i64 0, .int .i64 0], .string ⟨s.toArray⟩] X fun e w' => e = .returned (.bool T) ∧ D w' ∧ Below X.heap.size X w' from fun X h => by
                have h' := h
                rw [hD] at h'
                refine (nMatches_any _ _ s _ _ h'.1.nod1 (same_right hm2 hm8 HOK.out.2.1 HOK.out.2.2.1 hcx).2 (by omega)).mono fun e w7 g => ⟨?_, HDL.out _ _ h g.2, g.2⟩
                rw [g.1, hT])
              have HMS := hidden (show ∀ X, D X → Calls Try.prog 13 #[.agg #[.int .i64 5, .int .u64 0, .int .u64 0, .int .u64 0, .int .u64 0, .slice (some ⟨wr.heap.size, 0, none⟩) 1 1, .int .i64 0, .int .i64 (-1)], .string ⟨s.toArray⟩] X fun e w' => e = .returned (.bool U) ∧ D w' from fun X h => by
                have h' := h
                rw [hD] at h'
                refine (nMatches_any _ _ s _ _ h'.2.nod0 (by have := (star_right HOK.out.2.1 HOK.out.2.2.1 hcx).2.2.1; omega) (by omega)).mono fun e w7 g => ⟨?_, HDL.out _ _ h g.2⟩
                rw [g.1, star_more HOK.out.2.1 HOK.out.2.2.1 hcx, hU])
              have HMM := hidden (show ∀ X, D X → Calls Try.prog 13 #[.agg #[.int .i64 4, .int .u64 0, .int .u64 0, .int .u64 0, .int .u64 0, .slice (some ⟨wr.heap.size + 1 + 1 + 1, 0, none⟩) 2 2, .int .i64 0, .int .i64 0], .string ⟨s.toArray⟩] X fun e w' => e = .returned (.bool U) ∧ D w' from fun X h => by
                have h' := h
                rw [hD] at h'
                refine (nMatches_any _ _ s _ _ h'.2.nod1 (more_right HOK.out.2.1 HOK.out.2.2.1 hcx).2 (by omega)).mono fun e w7 g => ⟨?_, HDL.out _ _ h g.2⟩
                rw [g.1, hU])
              clear hW6 HK6 HK5 B1 B2 hz5 b1 b2 b3 b4 b5 hxN hsN hcN heN hmN hd1 hd2 hD HDL HOK hcx hm2 hm8 hT hU HR z0 z1 z2 z3 z4 z5 z6 z7 l0 l1 l2 l3 l4 l5 l6 l7
              cases T
              all_goals
                go_region_held3 (fun X => X.cell? ⟨w2.heap.size, 0, none⟩ = some (.int .i64 z) ∧ X.cell? ⟨w2.heap.size, 1, none⟩ = some (.int .u64 y0) ∧ X.cell? ⟨w2.heap.size, 2, none⟩ = some (.int .u64 y1) ∧ X.cell? ⟨w2.heap.size, 3, none⟩ = some (.int .u64 y2) ∧ X.cell? ⟨w2.heap.size, 4, none⟩ = some (.int .u64 y3) ∧ X.cell? ⟨w2.heap.size, 5, none⟩ = some (.slice sa sn sc) ∧ X.cell? ⟨w2.heap.size, 6, none⟩ = some (.int .i64 lo) ∧ X.cell? ⟨w2.heap.size, 7, none⟩ = some (.int .i64 hi) ∧ X.cell? ⟨w2.heap.size + 1, 0, none⟩ = some (.int .i64 3) ∧ X.cell? ⟨w2.heap.size + 1, 1, none⟩ = some (.int .u64 0) ∧ X.cell? ⟨w2.heap.size + 1, 2, none⟩ = some (.int .u64 0) ∧ X.cell? ⟨w2.heap.size + 1, 3, none⟩ = some (.int .u64 0) ∧ X.cell? ⟨w2.heap.size + 1, 4, none⟩ = some (.int .u64 0) ∧ X.cell? ⟨w2.heap.size + 1, 5, none⟩ = some (.slice a k cap) ∧ X.cell? ⟨w2.heap.size + 1, 6, none⟩ = some (.int .i64 0) ∧ X.cell? ⟨w2.heap.size + 1, 7, none⟩ = some (.int .i64 0) ∧ X.cell? ⟨wr.heap.size + 1, 0, none⟩ = some (.int .i64 5) ∧ X.cell? ⟨wr.heap.size + 1, 1, none⟩ = some (.int .u64 0) ∧ X.cell? ⟨wr.heap.size + 1, 2, none⟩ = some (.int .u64 0) ∧ X.cell? ⟨wr.heap.size + 1, 3, none⟩ = some (.int .u64 0) ∧ X.cell? ⟨wr.heap.size + 1, 4, none⟩ = some (.int .u64 0) ∧ X.cell? ⟨wr.heap.size + 1, 5, none⟩ = some (.slice (some ⟨wr.heap.size, 0, none⟩) 1 1) ∧ X.cell? ⟨wr.heap.size + 1, 6, none⟩ = some (.int .i64 0) ∧ X.cell? ⟨wr.heap.size + 1, 7, none⟩ = some (.int .i64 (-1)) ∧ X.cell? ⟨wr.heap.size + 1 + 1 + 1 + 1, 0, none⟩ = some (.int .i64 4) ∧ X.cell? ⟨wr.heap.size + 1 + 1 + 1 + 1, 1, none⟩ = some (.int .u64 0) ∧ X.cell? ⟨wr.heap.size + 1 + 1 + 1 + 1, 2, none⟩ = some (.int .u64 0) ∧ X.cell? ⟨wr.heap.size + 1 + 1 + 1 + 1, 3, none⟩ = some (.int .u64 0) ∧ X.cell? ⟨wr.heap.size + 1 + 1 + 1 + 1, 4, none⟩ = some (.int .u64 0) ∧ X.cell? ⟨wr.heap.size + 1 + 1 + 1 + 1, 5, none⟩ = some (.slice (some ⟨wr.heap.size + 1 + 1 + 1, 0, none⟩) 2 2) ∧ X.cell? ⟨wr.heap.size + 1 + 1 + 1 + 1, 6, none⟩ = some (.int .i64 0) ∧ X.cell? ⟨wr.heap.size + 1 + 1 + 1 + 1, 7, none⟩ = some (.int .i64 0) ∧ D X) (first | exact HDC.out _ (HDd.out _ HD.out) | exact HDC.out _ (by assumption) | exact HDC.out _ (HDa.out _ _ (by assumption)) | exact HDC.out _ (HDd.out _ (HDa.out _ _ HD.out))) (first
                  | (go_at_call 13; with_reducible refine (HMT.out _ _ (by first | assumption | exact HDd.out _ HD.out | exact HDa.out _ _ (by assumption) | exact HDd.out _ (HDa.out _ _ HD.out)) (by first | assumption | exact block_new _ _ | exact block_newD _ _)).mono ?_; rintro e w7 ⟨rfl, hK7⟩)
                  | (go_at_call 13; with_reducible refine (HMC.out _ (by first | assumption | exact HDd.out _ HD.out | exact HDa.out _ _ (by assumption) | exact HDd.out _ (HDa.out _ _ HD.out))).mono ?_; rintro e w7 ⟨rfl, hK7, hb7⟩; (try have hR7 := block_later hb7); (try have hR7 := block_laterD hb7); clear hb7)
                  | (go_at_call 13; with_reducible refine (HMS.out _ (by assumption)).mono ?_; rintro e w7 ⟨rfl, hK7⟩)
                  | (go_at_call 13; with_reducible refine (HMM.out _ (by assumption)).mono ?_; rintro e w7 ⟨rfl, hK7⟩))
                all_goals
                  go_wp2_with fail
                  go_ret
                  exact ⟨by simp, HDB.out _ (by assumption)⟩
    · have h1' : (30 : Int) < s.length := by omega
      go_wp2_with fail
      go_ret
      exact ⟨rfl, by (with_reducible (repeat (first | exact HB2.out | apply bel_alloc | apply bel_put | apply bel_set | apply Below.drew | apply below_drewN | omega)))⟩

end Go.Proofs.Ytjlihidmohokhaa

namespace Go.Proofs.Ytjlihidmohokhaa
open Go.ChangeShapes Go.WideShapes Go.ChangeAt Go.RowKit Go.Proofs.Ytjlihidmohokhaa.Gl
open Go.ChangeMaps (open_string shut_string)

theorem own : ownKnob Try.prog.godebug = none := by kernel_rfl


set_option maxRecDepth 100000 in
theorem nfaTimes_lifted (os : Os) (started : os.Started) (H : Type) (enc : TypeId × Value → H) :
    ReturnsInHanded {} Try.checked os 6 .any (Rows.nfaTimesSpec.pre6 enc Try.prog Try.f6 Rows.nfaTimesRow.domain false) (Rows.nfaTimesSpec.post enc Try.prog Try.f6 false true false false) := by
  refine returnsInHanded_of_change_sized (C := Try.checked) own started (by kernel_rfl) Try.func6
    (ChangeSpec.witness6 (enc := enc) (C := Try.checked) false ⟨#[], #[.string ByteArray.empty, .string ByteArray.empty, .int .i64 0], []⟩ 8 (by kernel_rfl) (by kernel_rfl) (by kernel_rfl) (by kernel_rfl)) ?_
  intro W base args ds gs before hval0 hW hcnd hsz0 _
  have hval : ∀ (j : Nat) t v, Try.f6.params[j]? = some t → args[j]? = some v → Value.okWide Try.prog W .any base t v := hval0
  have hsz : (DataW.weightsEach Try.prog (Try.f6.params.toList ++ Rows.nfaTimesSpec.plain.varTypes Try.prog) (ds ++ gs)).all (· ≤ reachBytes) = true := hsz0
  have hW' := hW
  obtain ⟨p, q, hA0, hV, rfl, hfz, hnd⟩ := hW
  have hA : DataW.TrodAll enc Try.prog W 0 (fun _ => true) true Try.f6.params.toList args.toList ds p := hA0
  rw [Try.params6] at hA hval hsz
  obtain ⟨v0, vs0, d0, ds0, p0, q0, hargs, rfl, rfl, h0, r0⟩ := trodAll_cons hA
  obtain ⟨v1, vs1, d1, ds1, p1, q1, rfl, rfl, rfl, h1, r1⟩ := trodAll_cons r0
  obtain ⟨v2, vs2, d2, ds2, p2, q2, rfl, rfl, rfl, h2, r2⟩ := trodAll_cons r1
  obtain ⟨rfl, rfl, rfl⟩ := trodAll_nil r2
  obtain rfl : args = #[v0, v1, v2] := by cases args; simp_all
  obtain ⟨rfl, rfl⟩ := trodVars_none hV
  obtain ⟨s0, rfl, rfl, rfl, w0⟩ := open_string Try.underlying9 (hval 0 9 v0 rfl rfl) h0
  have z0 : s0.data.toList.length ≤ 281474976710656 := by have := sized_string hsz (j := 0) (t := 9) rfl rfl; unfold reachBytes at this; omega
  obtain ⟨s1, rfl, rfl, rfl, w1⟩ := open_string Try.underlying9 (hval 1 9 v1 rfl rfl) h1
  have z1 : s1.data.toList.length ≤ 281474976710656 := by have := sized_string hsz (j := 1) (t := 9) rfl rfl; unfold reachBytes at this; omega
  obtain ⟨a2, rfl, rfl, rfl, w2⟩ := open_int Try.underlying3 (hval 2 3 v2 rfl rfl) h2
  have hwalk := nfaTimes_any s0.data.toList s1.data.toList a2 W z0 z1
  rw [S_data s0, S_data s1] at hwalk
  clear hA0 hval0
  refine hwalk.mono fun e W' ⟨he, bel⟩ => ?_
  subst he
  exact ⟨_, rfl, _, _, _, [], _, [], hW', trodAll_mk1 (shut_bool Try.underlying4 _), (trodAll_cons_mk (shut_string Try.underlying9 w0) (trodAll_cons_mk (shut_string Try.underlying9 w1) (trodAll_cons_mk (shut_int Try.underlying3 w2) trodAll_mk0))), rfl, bel.frame _, fun h => by cases h⟩

theorem nfaTimes_holds : Rows.NfaTimesSaid :=
  OpenClaim.holds_of_wide 6 Try.f6 rfl rfl rfl rfl rfl rfl rfl ⟨rfl, rfl, rfl, rfl, rfl⟩ rfl rfl rfl rfl rfl (by kernel_rfl) Try.func6 (by kernel_rfl)
    (of_decide_eq_true (by kernel_rfl)) (by unfold Func.isWrapper; first | (rw [if_pos (by decide +kernel)]; kernel_rfl) | (rw [if_neg (by decide +kernel)]; exact ⟨rfl, rfl⟩))
    (fun os started H enc _ => nfaTimes_lifted os started H enc)
#print axioms nfaTimes_holds
end Go.Proofs.Ytjlihidmohokhaa
