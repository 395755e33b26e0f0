/-
  Two nodes in memory, each in a block of its own, and what stays of them; no conditions.
-/
import Derived.Test.YtjlihidmohokhaaKBase
namespace Go.Proofs.Ytjlihidmohokhaa
open Go.RowKit Go.Proofs.Ytjlihidmohokhaa.Gl

/-- two nodes, each in a block of its own -/
structure TK (w : World) (b0 : Nat) (A0 : Nat → Prop) (z y0 y1 y2 y3 : Int) (sa : Option Addr) (sn sc : Nat) (lo hi : Int) (x : Nd) (b1 : Nat) (A1 : Nat → Prop) (qz qy0 qy1 qy2 qy3 : Int) (qsa : Option Addr) (qsn qsc : Nat) (qlo qhi : Int) (y : Nd) (X : World) : Prop where
  below : Below w.heap.size w X
  blk0 : Blk X b0 (.int .i64 z) (.int .u64 y0) (.int .u64 y1) (.int .u64 y2) (.int .u64 y3) (.slice sa sn sc) (.int .i64 lo) (.int .i64 hi)
  nod0 : NodeAt X A0 (.agg #[.int .i64 z, .int .u64 y0, .int .u64 y1, .int .u64 y2, .int .u64 y3, .slice sa sn sc, .int .i64 lo, .int .i64 hi]) x
  blk1 : Blk X b1 (.int .i64 qz) (.int .u64 qy0) (.int .u64 qy1) (.int .u64 qy2) (.int .u64 qy3) (.slice qsa qsn qsc) (.int .i64 qlo) (.int .i64 qhi)
  nod1 : NodeAt X A1 (.agg #[.int .i64 qz, .int .u64 qy0, .int .u64 qy1, .int .u64 qy2, .int .u64 qy3, .slice qsa qsn qsc, .int .i64 qlo, .int .i64 qhi]) y
section
variable {w X Y : World} {b0 b1 : Nat} {A0 A1 : Nat → Prop} {x y : Nd} {z y0 y1 y2 y3 : Int} {sa : Option Addr} {sn sc : Nat} {lo hi : Int} {qz qy0 qy1 qy2 qy3 : Int} {qsa : Option Addr} {qsn qsc : Nat} {qlo qhi : Int}
theorem TK.later (k : TK w b0 A0 z y0 y1 y2 y3 sa sn sc lo hi x b1 A1 qz qy0 qy1 qy2 qy3 qsa qsn qsc qlo qhi y X) (hb : Below X.heap.size X Y) : TK w b0 A0 z y0 y1 y2 y3 sa sn sc lo hi x b1 A1 qz qy0 qy1 qy2 qy3 qsa qsn qsc qlo qhi y Y :=
  ⟨k.below.trans (hb.mono k.below.size), k.blk0.later hb, k.nod0.later hb, k.blk1.later hb, k.nod1.later hb⟩
theorem TK.drew (k : TK w b0 A0 z y0 y1 y2 y3 sa sn sc lo hi x b1 A1 qz qy0 qy1 qy2 qy3 qsa qsn qsc qlo qhi y X) : TK w b0 A0 z y0 y1 y2 y3 sa sn sc lo hi x b1 A1 qz qy0 qy1 qy2 qy3 qsa qsn qsc qlo qhi y X.drew :=
  ⟨k.below.drew, k.blk0.drew, k.nod0.drew, k.blk1.drew, k.nod1.drew⟩
theorem TK.alloc (k : TK w b0 A0 z y0 y1 y2 y3 sa sn sc lo hi x b1 A1 qz qy0 qy1 qy2 qy3 qsa qsn qsc qlo qhi y X) (o : Obj) : TK w b0 A0 z y0 y1 y2 y3 sa sn sc lo hi x b1 A1 qz qy0 qy1 qy2 qy3 qsa qsn qsc qlo qhi y (X.alloc o) := k.later ((Below.refl _ X).alloc (Nat.le_refl _) o)
theorem TK.cells (k : TK w b0 A0 z y0 y1 y2 y3 sa sn sc lo hi x b1 A1 qz qy0 qy1 qy2 qy3 qsa qsn qsc qlo qhi y X) : (X.cell? ⟨b0, 0, none⟩ = some (.int .i64 z) ∧ X.cell? ⟨b0, 1, none⟩ = some (.int .u64 y0) ∧ X.cell? ⟨b0, 2, none⟩ = some (.int .u64 y1) ∧ X.cell? ⟨b0, 3, none⟩ = some (.int .u64 y2) ∧ X.cell? ⟨b0, 4, none⟩ = some (.int .u64 y3) ∧ X.cell? ⟨b0, 5, none⟩ = some (.slice sa sn sc) ∧ X.cell? ⟨b0, 6, none⟩ = some (.int .i64 lo) ∧ X.cell? ⟨b0, 7, none⟩ = some (.int .i64 hi)) ∧ (X.cell? ⟨b1, 0, none⟩ = some (.int .i64 qz) ∧ X.cell? ⟨b1, 1, none⟩ = some (.int .u64 qy0) ∧ X.cell? ⟨b1, 2, none⟩ = some (.int .u64 qy1) ∧ X.cell? ⟨b1, 3, none⟩ = some (.int .u64 qy2) ∧ X.cell? ⟨b1, 4, none⟩ = some (.int .u64 qy3) ∧ X.cell? ⟨b1, 5, none⟩ = some (.slice qsa qsn qsc) ∧ X.cell? ⟨b1, 6, none⟩ = some (.int .i64 qlo) ∧ X.cell? ⟨b1, 7, none⟩ = some (.int .i64 qhi)) := ⟨k.blk0.cells, k.blk1.cells⟩
theorem TK.held (k : TK w b0 A0 z y0 y1 y2 y3 sa sn sc lo hi x b1 A1 qz qy0 qy1 qy2 qy3 qsa qsn qsc qlo qhi y X) : X.cell? ⟨b0, 0, none⟩ = some (.int .i64 z) ∧ X.cell? ⟨b0, 1, none⟩ = some (.int .u64 y0) ∧ X.cell? ⟨b0, 2, none⟩ = some (.int .u64 y1) ∧ X.cell? ⟨b0, 3, none⟩ = some (.int .u64 y2) ∧ X.cell? ⟨b0, 4, none⟩ = some (.int .u64 y3) ∧ X.cell? ⟨b0, 5, none⟩ = some (.slice sa sn sc) ∧ X.cell? ⟨b0, 6, none⟩ = some (.int .i64 lo) ∧ X.cell? ⟨b0, 7, none⟩ = some (.int .i64 hi) ∧ X.cell? ⟨b1, 0, none⟩ = some (.int .i64 qz) ∧ X.cell? ⟨b1, 1, none⟩ = some (.int .u64 qy0) ∧ X.cell? ⟨b1, 2, none⟩ = some (.int .u64 qy1) ∧ X.cell? ⟨b1, 3, none⟩ = some (.int .u64 qy2) ∧ X.cell? ⟨b1, 4, none⟩ = some (.int .u64 qy3) ∧ X.cell? ⟨b1, 5, none⟩ = some (.slice qsa qsn qsc) ∧ X.cell? ⟨b1, 6, none⟩ = some (.int .i64 qlo) ∧ X.cell? ⟨b1, 7, none⟩ = some (.int .i64 qhi) ∧ TK w b0 A0 z y0 y1 y2 y3 sa sn sc lo hi x b1 A1 qz qy0 qy1 qy2 qy3 qsa qsn qsc qlo qhi y X := by
  obtain ⟨⟨h0, h1, h2, h3, h4, h5, h6, h7⟩, l0, l1, l2, l3, l4, l5, l6, l7⟩ := k.cells
  exact ⟨h0, h1, h2, h3, h4, h5, h6, h7, l0, l1, l2, l3, l4, l5, l6, l7, k⟩
end

end Go.Proofs.Ytjlihidmohokhaa
