/-
  The law NfaFinds returns true for every two texts, and nothing of what was in memory has turned; conditions: none but those of the row.
-/
import Derived.Test.YtjlihidmohokhaaKBase
import Derived.Test.YtjlihidmohokhaaNSmall
import Derived.Deep.RegionHeld3
import Derived.Deep.CutRange
import Derived.Test.YtjlihidmohokhaaRows
import Derived.ProofKit
import Derived.OpenShut
import Derived.SizedLaws
import Derived.WalkSmall
import Derived.ShutString
namespace Go.Proofs.Ytjlihidmohokhaa
open Go.RowKit Go.Proofs.Ytjlihidmohokhaa.Gl

/-- two nodes, each in a block of its own -/
structure TK (w : World) (b0 : Nat) (A0 : Nat → Prop) (z y0 y1 y2 y3 : Int) (sa : Option Addr) (sn sc : Nat) (lo hi : Int) (x : Nd) (b1 : Nat) (A1 : Nat → Prop) (qz qy0 qy1 qy2 qy3 : Int) (qsa : Option Addr) (qsn qsc : Nat) (qlo qhi : Int) (y : Nd) (X : World) : Prop where
  below : Below w.heap.size w X
  blk0 : Blk X b0 (.int .i64 z) (.int .u64 y0) (.int .u64 y1) (.int .u64 y2) (.int .u64 y3) (.slice sa sn sc) (.int .i64 lo) (.int .i64 hi)
  nod0 : NodeAt X A0 (.agg #[.int .i64 z, .int .u64 y0, .int .u64 y1, .int .u64 y2, .int .u64 y3, .slice sa sn sc, .int .i64 lo, .int .i64 hi]) x
  blk1 : Blk X b1 (.int .i64 qz) (.int .u64 qy0) (.int .u64 qy1) (.int .u64 qy2) (.int .u64 qy3) (.slice qsa qsn qsc) (.int .i64 qlo) (.int .i64 qhi)
  nod1 : NodeAt X A1 (.agg #[.int .i64 qz, .int .u64 qy0, .int .u64 qy1, .int .u64 qy2, .int .u64 qy3, .slice qsa qsn qsc, .int .i64 qlo, .int .i64 qhi]) y
section
variable {w X Y : World} {b0 b1 : Nat} {A0 A1 : Nat → Prop} {x y : Nd} {z y0 y1 y2 y3 : Int} {sa : Option Addr} {sn sc : Nat} {lo hi : Int} {qz qy0 qy1 qy2 qy3 : Int} {qsa : Option Addr} {qsn qsc : Nat} {qlo qhi : Int}
theorem TK.later (k : TK w b0 A0 z y0 y1 y2 y3 sa sn sc lo hi x b1 A1 qz qy0 qy1 qy2 qy3 qsa qsn qsc qlo qhi y X) (hb : Below X.heap.size X Y) : TK w b0 A0 z y0 y1 y2 y3 sa sn sc lo hi x b1 A1 qz qy0 qy1 qy2 qy3 qsa qsn qsc qlo qhi y Y :=
  ⟨k.below.trans (hb.mono k.below.size), k.blk0.later hb, k.nod0.later hb, k.blk1.later hb, k.nod1.later hb⟩
theorem TK.drew (k : TK w b0 A0 z y0 y1 y2 y3 sa sn sc lo hi x b1 A1 qz qy0 qy1 qy2 qy3 qsa qsn qsc qlo qhi y X) : TK w b0 A0 z y0 y1 y2 y3 sa sn sc lo hi x b1 A1 qz qy0 qy1 qy2 qy3 qsa qsn qsc qlo qhi y X.drew :=
  ⟨k.below.drew, k.blk0.drew, k.nod0.drew, k.blk1.drew, k.nod1.drew⟩
theorem TK.alloc (k : TK w b0 A0 z y0 y1 y2 y3 sa sn sc lo hi x b1 A1 qz qy0 qy1 qy2 qy3 qsa qsn qsc qlo qhi y X) (o : Obj) : TK w b0 A0 z y0 y1 y2 y3 sa sn sc lo hi x b1 A1 qz qy0 qy1 qy2 qy3 qsa qsn qsc qlo qhi y (X.alloc o) := k.later ((Below.refl _ X).alloc (Nat.le_refl _) o)
theorem TK.cells (k : TK w b0 A0 z y0 y1 y2 y3 sa sn sc lo hi x b1 A1 qz qy0 qy1 qy2 qy3 qsa qsn qsc qlo qhi y X) : (X.cell? ⟨b0, 0, none⟩ = some (.int .i64 z) ∧ X.cell? ⟨b0, 1, none⟩ = some (.int .u64 y0) ∧ X.cell? ⟨b0, 2, none⟩ = some (.int .u64 y1) ∧ X.cell? ⟨b0, 3, none⟩ = some (.int .u64 y2) ∧ X.cell? ⟨b0, 4, none⟩ = some (.int .u64 y3) ∧ X.cell? ⟨b0, 5, none⟩ = some (.slice sa sn sc) ∧ X.cell? ⟨b0, 6, none⟩ = some (.int .i64 lo) ∧ X.cell? ⟨b0, 7, none⟩ = some (.int .i64 hi)) ∧ (X.cell? ⟨b1, 0, none⟩ = some (.int .i64 qz) ∧ X.cell? ⟨b1, 1, none⟩ = some (.int .u64 qy0) ∧ X.cell? ⟨b1, 2, none⟩ = some (.int .u64 qy1) ∧ X.cell? ⟨b1, 3, none⟩ = some (.int .u64 qy2) ∧ X.cell? ⟨b1, 4, none⟩ = some (.int .u64 qy3) ∧ X.cell? ⟨b1, 5, none⟩ = some (.slice qsa qsn qsc) ∧ X.cell? ⟨b1, 6, none⟩ = some (.int .i64 qlo) ∧ X.cell? ⟨b1, 7, none⟩ = some (.int .i64 qhi)) := ⟨k.blk0.cells, k.blk1.cells⟩
theorem TK.held (k : TK w b0 A0 z y0 y1 y2 y3 sa sn sc lo hi x b1 A1 qz qy0 qy1 qy2 qy3 qsa qsn qsc qlo qhi y X) : X.cell? ⟨b0, 0, none⟩ = some (.int .i64 z) ∧ X.cell? ⟨b0, 1, none⟩ = some (.int .u64 y0) ∧ X.cell? ⟨b0, 2, none⟩ = some (.int .u64 y1) ∧ X.cell? ⟨b0, 3, none⟩ = some (.int .u64 y2) ∧ X.cell? ⟨b0, 4, none⟩ = some (.int .u64 y3) ∧ X.cell? ⟨b0, 5, none⟩ = some (.slice sa sn sc) ∧ X.cell? ⟨b0, 6, none⟩ = some (.int .i64 lo) ∧ X.cell? ⟨b0, 7, none⟩ = some (.int .i64 hi) ∧ X.cell? ⟨b1, 0, none⟩ = some (.int .i64 qz) ∧ X.cell? ⟨b1, 1, none⟩ = some (.int .u64 qy0) ∧ X.cell? ⟨b1, 2, none⟩ = some (.int .u64 qy1) ∧ X.cell? ⟨b1, 3, none⟩ = some (.int .u64 qy2) ∧ X.cell? ⟨b1, 4, none⟩ = some (.int .u64 qy3) ∧ X.cell? ⟨b1, 5, none⟩ = some (.slice qsa qsn qsc) ∧ X.cell? ⟨b1, 6, none⟩ = some (.int .i64 qlo) ∧ X.cell? ⟨b1, 7, none⟩ = some (.int .i64 qhi) ∧ TK w b0 A0 z y0 y1 y2 y3 sa sn sc lo hi x b1 A1 qz qy0 qy1 qy2 qy3 qsa qsn qsc qlo qhi y X := by
  obtain ⟨⟨h0, h1, h2, h3, h4, h5, h6, h7⟩, l0, l1, l2, l3, l4, l5, l6, l7⟩ := k.cells
  exact ⟨h0, h1, h2, h3, h4, h5, h6, h7, l0, l1, l2, l3, l4, l5, l6, l7, k⟩
end

end Go.Proofs.Ytjlihidmohokhaa

namespace Go.Proofs.Ytjlihidmohokhaa
open Go.RowKit Go.Proofs.Ytjlihidmohokhaa.Gl

theorem block_cell {X : World} {bb : Nat} {cs : Array Value} {t : TypeId} (h : X.heap[bb]? = some (.cells cs t)) (i : Nat) : X.cell? ⟨bb, i, none⟩ = cs[i]? := by
  simp [World.cell?, h]
theorem block_new (X : World) (o : Obj) : (X.alloc o).heap[X.heap.size]? = some o := by
  show (X.heap.push o)[X.heap.size]? = some o
  simp
theorem block_later {X Y : World} {o : Obj} (hb : Below (X.alloc o).heap.size (X.alloc o) Y) : Y.heap[X.heap.size]? = some o :=
  (hb.block X.heap.size (by simp)).trans (block_new X o)
theorem block_newD (X : World) (o : Obj) : (X.alloc o).drew.heap[X.heap.size]? = some o := block_new X o
theorem block_laterD {X Y : World} {o : Obj} (hb : Below (X.alloc o).drew.heap.size (X.alloc o).drew Y) : Y.heap[X.heap.size]? = some o :=
  (hb.block X.heap.size (by show _ < (X.alloc o).heap.size; simp)).trans (block_new X o)
theorem block_keep {X Y : World} {bb : Nat} {o : Obj} (h : X.heap[bb]? = some o) (hb : Below X.heap.size X Y) : Y.heap[bb]? = some o :=
  (hb.block bb (Array.getElem?_eq_some_iff.1 h).1).trans h
/-- a node of some kind over a list of parts -/
theorem over_at {X : World} {A : Nat → Prop} {kv : Value} {l : List Nd} {k lo hi : Int} (h : KidsAt X A kv l) : NodeAt X A (.agg #[.int .i64 k, .int .u64 0, .int .u64 0, .int .u64 0, .int .u64 0, kv, .int .i64 lo, .int .i64 hi]) (.mk k none_ l lo hi) := by
  have g := h.shut k none_ lo hi
  unfold nodeV at g
  rw [show word none_ 0 = 0 from word_none 0, show word none_ 1 = 0 from word_none 1, show word none_ 2 = 0 from word_none 2, show word none_ 3 = 0 from word_none 3] at g
  exact g
theorem kids_one {X : World} {bb : Nat} {t : TypeId} {a0 a1 a2 a3 a4 a5 a6 a7 : Value} {xa : Nd} (h : X.heap[bb]? = some (.cells #[a0, a1, a2, a3, a4, a5, a6, a7] t)) (ha : NodeAt X (fun _ => True) (.agg #[a0, a1, a2, a3, a4, a5, a6, a7]) xa) : KidsAt X (fun _ => True) (.slice (some ⟨bb, 0, none⟩) 1 1) [xa] := by
  have hcell := block_cell h
  refine ⟨some ⟨bb, 0, none⟩, 1, [.agg #[a0, a1, a2, a3, a4, a5, a6, a7]], rfl, rfl, Nat.le_refl _, fun _ => ⟨bb, 0, rfl, trivial, fun j v hj => ?_⟩, fun j v d hj hd => ?_⟩
  · match j, hj with
    | 0, hj =>
      simp at hj
      subst hj
      exact ⟨a0, a1, a2, a3, a4, a5, a6, a7, rfl, hcell 0, hcell 1, hcell 2, hcell 3, hcell 4, hcell 5, hcell 6, hcell 7⟩
  · match j, hj, hd with
    | 0, hj, hd =>
      simp at hj hd
      subst hj; subst hd
      exact ha
theorem kids_two {X : World} {bb : Nat} {t : TypeId} {a0 a1 a2 a3 a4 a5 a6 a7 b0 b1 b2 b3 b4 b5 b6 b7 : Value} {xa xb : Nd} (h : X.heap[bb]? = some (.cells #[a0, a1, a2, a3, a4, a5, a6, a7, b0, b1, b2, b3, b4, b5, b6, b7] t)) (ha : NodeAt X (fun _ => True) (.agg #[a0, a1, a2, a3, a4, a5, a6, a7]) xa) (hb : NodeAt X (fun _ => True) (.agg #[b0, b1, b2, b3, b4, b5, b6, b7]) xb) : KidsAt X (fun _ => True) (.slice (some ⟨bb, 0, none⟩) 2 2) [xa, xb] := by
  have hcell := block_cell h
  refine ⟨some ⟨bb, 0, none⟩, 2, [.agg #[a0, a1, a2, a3, a4, a5, a6, a7], .agg #[b0, b1, b2, b3, b4, b5, b6, b7]], rfl, rfl, Nat.le_refl _, fun _ => ⟨bb, 0, rfl, trivial, fun j v hj => ?_⟩, fun j v d hj hd => ?_⟩
  · match j, hj with
    | 0, hj =>
      simp at hj
      subst hj
      exact ⟨a0, a1, a2, a3, a4, a5, a6, a7, rfl, hcell 0, hcell 1, hcell 2, hcell 3, hcell 4, hcell 5, hcell 6, hcell 7⟩
    | 1, hj =>
      simp at hj
      subst hj
      exact ⟨b0, b1, b2, b3, b4, b5, b6, b7, rfl, hcell 8, hcell 9, hcell 10, hcell 11, hcell 12, hcell 13, hcell 14, hcell 15⟩
  · match j, hj, hd with
    | 0, hj, hd =>
      simp at hj hd
      subst hj; subst hd
      exact ha
    | 1, hj, hd =>
      simp at hj hd
      subst hj; subst hd
      exact hb
theorem kids_three {X : World} {bb : Nat} {t : TypeId} {a0 a1 a2 a3 a4 a5 a6 a7 b0 b1 b2 b3 b4 b5 b6 b7 c0 c1 c2 c3 c4 c5 c6 c7 : Value} {xa xb xc : Nd} (h : X.heap[bb]? = some (.cells #[a0, a1, a2, a3, a4, a5, a6, a7, b0, b1, b2, b3, b4, b5, b6, b7, c0, c1, c2, c3, c4, c5, c6, c7] t)) (ha : NodeAt X (fun _ => True) (.agg #[a0, a1, a2, a3, a4, a5, a6, a7]) xa) (hb : NodeAt X (fun _ => True) (.agg #[b0, b1, b2, b3, b4, b5, b6, b7]) xb) (hc : NodeAt X (fun _ => True) (.agg #[c0, c1, c2, c3, c4, c5, c6, c7]) xc) : KidsAt X (fun _ => True) (.slice (some ⟨bb, 0, none⟩) 3 3) [xa, xb, xc] := by
  have hcell := block_cell h
  refine ⟨some ⟨bb, 0, none⟩, 3, [.agg #[a0, a1, a2, a3, a4, a5, a6, a7], .agg #[b0, b1, b2, b3, b4, b5, b6, b7], .agg #[c0, c1, c2, c3, c4, c5, c6, c7]], rfl, rfl, Nat.le_refl _, fun _ => ⟨bb, 0, rfl, trivial, fun j v hj => ?_⟩, fun j v d hj hd => ?_⟩
  · match j, hj with
    | 0, hj =>
      simp at hj
      subst hj
      exact ⟨a0, a1, a2, a3, a4, a5, a6, a7, rfl, hcell 0, hcell 1, hcell 2, hcell 3, hcell 4, hcell 5, hcell 6, hcell 7⟩
    | 1, hj =>
      simp at hj
      subst hj
      exact ⟨b0, b1, b2, b3, b4, b5, b6, b7, rfl, hcell 8, hcell 9, hcell 10, hcell 11, hcell 12, hcell 13, hcell 14, hcell 15⟩
    | 2, hj =>
      simp at hj
      subst hj
      exact ⟨c0, c1, c2, c3, c4, c5, c6, c7, rfl, hcell 16, hcell 17, hcell 18, hcell 19, hcell 20, hcell 21, hcell 22, hcell 23⟩
  · match j, hj, hd with
    | 0, hj, hd =>
      simp at hj hd
      subst hj; subst hd
      exact ha
    | 1, hj, hd =>
      simp at hj hd
      subst hj; subst hd
      exact hb
    | 2, hj, hd =>
      simp at hj hd
      subst hj; subst hd
      exact hc

end Go.Proofs.Ytjlihidmohokhaa

namespace Go.Proofs.Ytjlihidmohokhaa
open Go.RowKit Go.Proofs.Ytjlihidmohokhaa.Gl

theorem find_node {x : Nd} (h1 : withinN x 100 = true) (h2 : sizeN x ≤ 500) (h3 : cntN x ≤ 100) : rightN (.mk 3 none_ [anyN, x, anyN] 0 0) = true ∧ cntN (.mk 3 none_ [anyN, x, anyN] 0 0) ≤ 1048576 := by
  have ha : withinN anyN 100 = true := by decide +kernel
  have hs : sizeN anyN = 2 := by decide +kernel
  have hc : cntN anyN = 2 := by decide +kernel
  have hw := right_of (k := 3) (l := [anyN, x, anyN]) (m := 100) (Or.inl rfl) (by simp) (by
    intro d hd
    simp at hd
    rcases hd with rfl | rfl | rfl
    · exact ha
    · exact h1
    · exact ha)
  refine ⟨?_, ?_⟩
  · unfold rightN
    rw [within_mono _ _ 200 (by omega) hw, size_cat 3 (by decide)]
    simp [sizes, hs]
    omega
  · rw [cntN]
    simp [cnts, hc]
    omega

set_option maxHeartbeats 8000000 in
theorem nfaFinds_any (t s : Tx) (w : World) (ht : t.length ≤ 281474976710656) (hs : s.length ≤ 281474976710656) :
    Calls Try.prog 4 #[S t, S s] w fun e w' => e = .returned (.bool true) ∧ Below w.heap.size w w' := by
  have HSM := hidden (fun (X : World) => small_any t X ht)
  unfold S at HSM ⊢
  go_enter Try.func4, Try.ntmps4
  go_wp2_with fail
  refine (alive_any _).mono ?_
  rintro e w1 ⟨rfl, hb1⟩
  have HB1 := hidden hb1
  clear hb1
  go_wp2_with fail
  refine (HSM.out _).mono ?_
  rintro en w2 ⟨hb2, ha2⟩
  obtain ⟨vx, x, ok, rfl, hnx, hok⟩ := ha2
  obtain ⟨z, y0, y1, y2, y3, sa, sn, sc, lo, hi, rfl⟩ := hnx.shapeI
  have HB2 := hidden (HB1.out.trans (hb2.mono HB1.out.size))
  have HN2 := hidden (show NodeAt w2 (fun _ => True) (.agg #[.int .i64 z, .int .u64 y0, .int .u64 y1, .int .u64 y2, .int .u64 y3, .slice sa sn sc, .int .i64 lo, .int .i64 hi]) x from hnx.keep fun _ _ _ => ⟨rfl, trivial⟩)
  have HZ2 := hidden (Blk.new w2 (.int .i64 z) (.int .u64 y0) (.int .u64 y1) (.int .u64 y2) (.int .u64 y3) (.slice sa sn sc) (.int .i64 lo) (.int .i64 hi))
  clear hb2 hnx
  cases ok with
  | false =>
    clear hok
    go_wp2_with fail
    go_ret
    exact ⟨rfl, by (with_reducible (repeat (first | exact HB2.out | apply bel_alloc | apply bel_put | apply bel_set | apply Below.drew | apply below_drewN | omega)))⟩
  | true =>
    have HOK := hidden (hok rfl).facts
    have hcx : cntN x ≤ 100 := (hok rfl).facts.2.2.2
    clear hok
    by_cases h1 : s.length ≤ 30
    · have h1' : ¬ (30 : Int) < s.length := by omega
      have h1d : decide ((30 : Int) < s.length) = false := decide_eq_false h1'
      go_upto_region 6 with fail
      generalize hW5 : World.alloc _ _ = W5
      have hwd := word_all
      have HA5 := hidden (show NodeAt W5 (fun _ => True) (.agg #[.int .i64 2, .int .u64 18446744073709551615, .int .u64 18446744073709551615, .int .u64 18446744073709551615, .int .u64 18446744073709551615, .slice none 0 0, .int .i64 0, .int .i64 0]) (setN allB) from by
        have := setN_at W5 (fun _ => True) allB
        unfold nodeV at this
        rw [hwd.1, hwd.2.1, hwd.2.2.1, hwd.2.2.2] at this
        exact this)
      have HS5 := hidden (show Blk W5 (w2.heap.size + 1) (.int .i64 2) (.int .u64 18446744073709551615) (.int .u64 18446744073709551615) (.int .u64 18446744073709551615) (.int .u64 18446744073709551615) (.slice none 0 0) (.int .i64 0) (.int .i64 0) by
        rw [← hW5]
        refine Blk.alloc (Blk.newAt ?_) _
        simp)
      have HK5 := hidden (show TK w w2.heap.size (fun _ => True) z y0 y1 y2 y3 sa sn sc lo hi x (w2.heap.size + 1 + 1) (fun _ => True) 5 0 0 0 0 (some ⟨w2.heap.size + 1, 0, none⟩) 1 1 0 (-1) anyN W5 from ⟨by rw [← hW5]; (with_reducible (repeat (first | exact HB2.out | apply bel_alloc | apply bel_put | apply bel_set | apply Below.drew | apply below_drewN | omega))), by rw [← hW5]; (with_reducible (repeat (first | exact HZ2.out | exact Blk.newAt (by simp) | apply Blk.alloc | apply Blk.put | apply Blk.putOther | apply Blk.other | apply Blk.drewN | apply Blk.drew | omega))), by rw [← hW5]; (with_reducible (repeat (first | exact HN2.out | apply NodeAt.alloc | apply NodeAt.putN | apply NodeAt.other | apply NodeAt.putO | apply NodeAt.otherO | apply NodeAt.drewN | apply NodeAt.drew | omega))), by rw [← hW5]; exact Blk.newAt (by simp), by
        exact times_at HA5.out HS5.out trivial rfl⟩)
      have HC := hidden (fun (X : World) (k : TK w w2.heap.size (fun _ => True) z y0 y1 y2 y3 sa sn sc lo hi x (w2.heap.size + 1 + 1) (fun _ => True) 5 0 0 0 0 (some ⟨w2.heap.size + 1, 0, none⟩) 1 1 0 (-1) anyN X) => k.held)
      have HFI := hidden (show ∀ X, TK w w2.heap.size (fun _ => True) z y0 y1 y2 y3 sa sn sc lo hi x (w2.heap.size + 1 + 1) (fun _ => True) 5 0 0 0 0 (some ⟨w2.heap.size + 1, 0, none⟩) 1 1 0 (-1) anyN X → Calls Try.prog 15 #[.agg #[.int .i64 z, .int .u64 y0, .int .u64 y1, .int .u64 y2, .int .u64 y3, .slice sa sn sc, .int .i64 lo, .int .i64 hi], .string ⟨s.toArray⟩] X fun e w' => e = .returned (.bool (someB s x)) ∧ TK w w2.heap.size (fun _ => True) z y0 y1 y2 y3 sa sn sc lo hi x (w2.heap.size + 1 + 1) (fun _ => True) 5 0 0 0 0 (some ⟨w2.heap.size + 1, 0, none⟩) 1 1 0 (-1) anyN w' ∧ Below X.heap.size X w' from fun X k => (nFinds_any _ _ s _ _ k.nod0 (by omega) (by omega)).mono fun e w7 h => ⟨h.1, k.later h.2, h.2⟩)
      have HMA := hidden (show ∀ X bb, TK w w2.heap.size (fun _ => True) z y0 y1 y2 y3 sa sn sc lo hi x (w2.heap.size + 1 + 1) (fun _ => True) 5 0 0 0 0 (some ⟨w2.heap.size + 1, 0, none⟩) 1 1 0 (-1) anyN X → X.heap[bb]? = some (.cells #[.int .i64 5, .int .u64 0, .int .u64 0, .int .u64 0, .int .u64 0, .slice (some ⟨w2.heap.size + 1, 0, none⟩) 1 1, .int .i64 0, .int .i64 (-1), .int .i64 z, .int .u64 y0, .int .u64 y1, .int .u64 y2, .int .u64 y3, .slice sa sn sc, .int .i64 lo, .int .i64 hi, .int .i64 5, .int .u64 0, .int .u64 0, .int .u64 0, .int .u64 0, .slice (some ⟨w2.heap.size + 1, 0, none⟩) 1 1, .int .i64 0, .int .i64 (-1)] 26) → Calls Try.prog 13 #[.agg #[.int .i64 3, .int .u64 0, .int .u64 0, .int .u64 0, .int .u64 0, .slice (some ⟨bb, 0, none⟩) 3 3, .int .i64 0, .int .i64 0], .string ⟨s.toArray⟩] X fun e w' => e = .returned (.bool (someB s x)) ∧ TK w w2.heap.size (fun _ => True) z y0 y1 y2 y3 sa sn sc lo hi x (w2.heap.size + 1 + 1) (fun _ => True) 5 0 0 0 0 (some ⟨w2.heap.size + 1, 0, none⟩) 1 1 0 (-1) anyN w' from fun X bb k hbb => by
        have hf := find_node HOK.out.2.1 HOK.out.2.2.1 hcx
        refine (nMatches_any _ _ s _ _ (over_at (kids_three hbb k.nod1 k.nod0 k.nod1)) hf.2 (by omega)).mono fun e w7 h => ⟨?_, k.later h.2⟩
        rw [h.1]
        have : wholeB s (.mk 3 none_ [anyN, x, anyN] 0 0) = someB s x := by
          rw [Bool.eq_iff_iff, wholeB_is, someB_is, finds_between]
          simp [hf.1, HOK.out.1]
        rw [this])
      clear hW5 hwd HA5 HS5 HSM HB1 HB2 HN2 HZ2 HOK ht hs h1' h1d
      go_region_held3 (fun X => X.cell? ⟨w2.heap.size, 0, none⟩ = some (.int .i64 z) ∧ X.cell? ⟨w2.heap.size, 1, none⟩ = some (.int .u64 y0) ∧ X.cell? ⟨w2.heap.size, 2, none⟩ = some (.int .u64 y1) ∧ X.cell? ⟨w2.heap.size, 3, none⟩ = some (.int .u64 y2) ∧ X.cell? ⟨w2.heap.size, 4, none⟩ = some (.int .u64 y3) ∧ X.cell? ⟨w2.heap.size, 5, none⟩ = some (.slice sa sn sc) ∧ X.cell? ⟨w2.heap.size, 6, none⟩ = some (.int .i64 lo) ∧ X.cell? ⟨w2.heap.size, 7, none⟩ = some (.int .i64 hi) ∧ X.cell? ⟨w2.heap.size + 1 + 1, 0, none⟩ = some (.int .i64 5) ∧ X.cell? ⟨w2.heap.size + 1 + 1, 1, none⟩ = some (.int .u64 0) ∧ X.cell? ⟨w2.heap.size + 1 + 1, 2, none⟩ = some (.int .u64 0) ∧ X.cell? ⟨w2.heap.size + 1 + 1, 3, none⟩ = some (.int .u64 0) ∧ X.cell? ⟨w2.heap.size + 1 + 1, 4, none⟩ = some (.int .u64 0) ∧ X.cell? ⟨w2.heap.size + 1 + 1, 5, none⟩ = some (.slice (some ⟨w2.heap.size + 1, 0, none⟩) 1 1) ∧ X.cell? ⟨w2.heap.size + 1 + 1, 6, none⟩ = some (.int .i64 0) ∧ X.cell? ⟨w2.heap.size + 1 + 1, 7, none⟩ = some (.int .i64 (-1)) ∧ TK w w2.heap.size (fun _ => True) z y0 y1 y2 y3 sa sn sc lo hi x (w2.heap.size + 1 + 1) (fun _ => True) 5 0 0 0 0 (some ⟨w2.heap.size + 1, 0, none⟩) 1 1 0 (-1) anyN X) (first | exact HC.out _ HK5.out.drew | exact HC.out _ (by assumption) | exact HC.out _ (TK.alloc (by assumption) _) | exact HC.out _ (TK.alloc HK5.out _).drew) (first
        | (go_at_call 15; with_reducible refine (HFI.out _ (by first | assumption | exact HK5.out.drew | exact TK.alloc (by assumption) _ | exact (TK.alloc HK5.out _).drew)).mono ?_; rintro e w7 ⟨rfl, hK7, hb7⟩; (try have hR7 := block_later hb7); (try have hR7 := block_laterD hb7); clear hb7)
        | (go_at_call 13; with_reducible refine (HMA.out _ _ (by first | assumption | exact HK5.out.drew | exact TK.alloc (by assumption) _ | exact (TK.alloc HK5.out _).drew) (by first | assumption | exact block_new _ _ | exact block_newD _ _)).mono ?_; rintro e w8 ⟨rfl, hK8⟩))
      all_goals
        go_wp2_with fail
        go_ret
        exact ⟨by simp, TK.below (by assumption)⟩
    · have h1' : (30 : Int) < s.length := by omega
      go_wp2_with fail
      go_ret
      exact ⟨rfl, by (with_reducible (repeat (first | exact HB2.out | apply bel_alloc | apply bel_put | apply bel_set | apply Below.drew | apply below_drewN | omega)))⟩

end Go.Proofs.Ytjlihidmohokhaa

namespace Go.Proofs.Ytjlihidmohokhaa
open Go.ChangeShapes Go.WideShapes Go.ChangeAt Go.RowKit Go.Proofs.Ytjlihidmohokhaa.Gl
open Go.ChangeMaps (open_string shut_string)

theorem own : ownKnob Try.prog.godebug = none := by kernel_rfl


set_option maxRecDepth 100000 in
theorem nfaFinds_lifted (os : Os) (started : os.Started) (H : Type) (enc : TypeId × Value → H) :
    ReturnsInHanded {} Try.checked os 4 .any (Rows.nfaFindsSpec.pre6 enc Try.prog Try.f4 Rows.nfaFindsRow.domain false) (Rows.nfaFindsSpec.post enc Try.prog Try.f4 false true false false) := by
  refine returnsInHanded_of_change_sized (C := Try.checked) own started (by kernel_rfl) Try.func4
    (ChangeSpec.witness6 (enc := enc) (C := Try.checked) false ⟨#[], #[.string ByteArray.empty, .string ByteArray.empty], []⟩ 8 (by kernel_rfl) (by kernel_rfl) (by kernel_rfl) (by kernel_rfl)) ?_
  intro W base args ds gs before hval0 hW hcnd hsz0 _
  have hval : ∀ (j : Nat) t v, Try.f4.params[j]? = some t → args[j]? = some v → Value.okWide Try.prog W .any base t v := hval0
  have hsz : (DataW.weightsEach Try.prog (Try.f4.params.toList ++ Rows.nfaFindsSpec.plain.varTypes Try.prog) (ds ++ gs)).all (· ≤ reachBytes) = true := hsz0
  have hW' := hW
  obtain ⟨p, q, hA0, hV, rfl, hfz, hnd⟩ := hW
  have hA : DataW.TrodAll enc Try.prog W 0 (fun _ => true) true Try.f4.params.toList args.toList ds p := hA0
  rw [Try.params4] at hA hval hsz
  obtain ⟨v0, vs0, d0, ds0, p0, q0, hargs, rfl, rfl, h0, r0⟩ := trodAll_cons hA
  obtain ⟨v1, vs1, d1, ds1, p1, q1, rfl, rfl, rfl, h1, r1⟩ := trodAll_cons r0
  obtain ⟨rfl, rfl, rfl⟩ := trodAll_nil r1
  obtain rfl : args = #[v0, v1] := by cases args; simp_all
  obtain ⟨rfl, rfl⟩ := trodVars_none hV
  obtain ⟨s0, rfl, rfl, rfl, w0⟩ := open_string Try.underlying9 (hval 0 9 v0 rfl rfl) h0
  have z0 : s0.data.toList.length ≤ 281474976710656 := by have := sized_string hsz (j := 0) (t := 9) rfl rfl; unfold reachBytes at this; omega
  obtain ⟨s1, rfl, rfl, rfl, w1⟩ := open_string Try.underlying9 (hval 1 9 v1 rfl rfl) h1
  have z1 : s1.data.toList.length ≤ 281474976710656 := by have := sized_string hsz (j := 1) (t := 9) rfl rfl; unfold reachBytes at this; omega
  have hwalk := nfaFinds_any s0.data.toList s1.data.toList W z0 z1
  rw [S_data s0, S_data s1] at hwalk
  clear hA0 hval0
  refine hwalk.mono fun e W' ⟨he, bel⟩ => ?_
  subst he
  exact ⟨_, rfl, _, _, _, [], _, [], hW', trodAll_mk1 (shut_bool Try.underlying4 _), (trodAll_cons_mk (shut_string Try.underlying9 w0) (trodAll_cons_mk (shut_string Try.underlying9 w1) trodAll_mk0)), rfl, bel.frame _, fun h => by cases h⟩

theorem nfaFinds_holds : Rows.NfaFindsSaid :=
  OpenClaim.holds_of_wide 4 Try.f4 rfl rfl rfl rfl rfl rfl rfl ⟨rfl, rfl, rfl, rfl, rfl⟩ rfl rfl rfl rfl rfl (by kernel_rfl) Try.func4 (by kernel_rfl)
    (of_decide_eq_true (by kernel_rfl)) (by unfold Func.isWrapper; first | (rw [if_pos (by decide +kernel)]; kernel_rfl) | (rw [if_neg (by decide +kernel)]; exact ⟨rfl, rfl⟩))
    (fun os started H enc _ => nfaFinds_lifted os started H enc)
#print axioms nfaFinds_holds
end Go.Proofs.Ytjlihidmohokhaa
