/-
  The law NfaAlts returns true for every three texts, and nothing of what was in memory has turned; conditions: none but those of the row.
-/
import Derived.Test.YtjlihidmohokhaaKBase
import Derived.Test.YtjlihidmohokhaaNFact2
import Derived.Test.YtjlihidmohokhaaNSmall
import Derived.Deep.RegionHeld3
import Derived.BigQuiet
import Derived.Deep.CutRange
import Derived.Test.YtjlihidmohokhaaRows
import Derived.ProofKit
import Derived.OpenShut
import Derived.SizedLaws
import Derived.WalkSmall
import Derived.ShutString
namespace Go.Proofs.Ytjlihidmohokhaa
open Go.RowKit Go.Proofs.Ytjlihidmohokhaa.Gl

theorem endsL_any : ∀ (l : List Nd), endsL l = l.any endsN := by
  intro l
  induction l with
  | nil => rfl
  | cons d t ih => rw [endsL, ih, List.any_cons]
theorem any_hit {l : List Nd} {j : Nat} {d : Nd} (h : l[j]? = some d) (hd : endsN d = true) : l.any endsN = true :=
  List.any_eq_true.2 ⟨d, List.mem_of_getElem? h, hd⟩
theorem any_more {l : List Nd} {j : Nat} {d : Nd} (h : l[j]? = some d) (hd : endsN d = false) (ht : (l.take j).any endsN = false) : (l.take (j + 1)).any endsN = false := by
  rw [List.take_add_one, h, List.any_append, ht]
  simp [hd]

set_option maxHeartbeats 8000000 in
theorem ends_any : ∀ (N : Nat) (x : Nd), cntN x ≤ N → N ≤ 1048576 → ∀ (v : Value) (w : World) (A : Nat → Prop), NodeAt w A v x →
    Calls Try.prog 18 #[v] w fun e w' => e = .returned (.bool (endsN x)) ∧ Below w.heap.size w w' := by
  intro N
  induction N with
  | zero => intro x hx; have := cntN_pos x; omega
  | succ N ih =>
    intro x hx hN v w A hnode
    obtain ⟨k, f, kids, lo, hi⟩ := x
    obtain ⟨kv, rfl, hkids0⟩ := hnode.open
    obtain ⟨a, cap, vs, rfl, hvl, hcap, hcells, hkids⟩ := hkids0
    rw [cntN] at hx
    have hlen := cnts_len kids
    have HW := hidden (show endsN (.mk k f kids lo hi) = (k == 6 || k == 7 || kids.any endsN) by rw [endsN, endsL_any])
    have HIH := hidden ih
    have HKI := hidden hkids
    have HCE := hidden hcells
    have HCN := hidden (cnts_at kids)
    have hxb : kids.length ≤ 1048576 := by omega
    have hcn : cnts kids ≤ N := by omega
    have HB0 := hidden (Below.refl w.heap.size w)
    have HC0 := hidden (Blk.new w (.int .i64 k) (.int .u64 (word f 0)) (.int .u64 (word f 1)) (.int .u64 (word f 2)) (.int .u64 (word f 3)) (.slice a kids.length cap) (.int .i64 lo) (.int .i64 hi))
    clear ih hkids hcells hnode hx hlen
    unfold nodeV
    by_cases hk6 : k = 6
    · subst hk6
      have HF := hidden (show endsN (.mk 6 f kids lo hi) = true by rw [HW.out]; rfl)
      go_enter Try.func18, Try.ntmps18
      go_wp2_with fail
      go_ret
      exact ⟨by rw [HF.out]; rfl, by (with_reducible (repeat (first | exact HB0.out | apply bel_alloc | apply bel_put | apply bel_set | apply Below.drew | apply below_drewN | omega)))⟩
    · have hkb6 : (k == 6) = false := by rw [beq_eq_false_iff_ne]; exact hk6
      by_cases hk7 : k = 7
      · subst hk7
        have HF := hidden (show endsN (.mk 7 f kids lo hi) = true by rw [HW.out]; rfl)
        clear hk6 hkb6
        go_enter Try.func18, Try.ntmps18
        go_wp2_with fail
        go_ret
        exact ⟨by rw [HF.out]; rfl, by (with_reducible (repeat (first | exact HB0.out | apply bel_alloc | apply bel_put | apply bel_set | apply Below.drew | apply below_drewN | omega)))⟩
      · have hkb7 : (k == 7) = false := by rw [beq_eq_false_iff_ne]; exact hk7
        have HW3 := hidden (show endsN (.mk k f kids lo hi) = kids.any endsN by rw [HW.out, hkb6, hkb7]; rfl)
        clear HW
        go_enter Try.func18, Try.ntmps18
        go_wp2_with fail
        go_loopw [2, 3] (fun _ i wr => ∃ j : Nat, i = .int .i64 j ∧ j ≤ kids.length ∧ Hid (Below w.heap.size w wr ∧ Blk wr w.heap.size (.int .i64 k) (.int .u64 (word f 0)) (.int .u64 (word f 1)) (.int .u64 (word f 2)) (.int .u64 (word f 3)) (.slice a kids.length cap) (.int .i64 lo) (.int .i64 hi) ∧ (kids.take j).any endsN = false))
          (fun _ i _ => kids.length - (intOf i).toNat)
        case atStart => exact ⟨0, rfl, Nat.zero_le _, by (with_reducible (repeat (first | exact HB0.out | apply bel_alloc | apply bel_put | apply bel_set | apply Below.drew | apply below_drewN | omega))), by (with_reducible (repeat (first | exact HC0.out | exact Blk.newAt (by simp) | apply Blk.alloc | apply Blk.put | apply Blk.putOther | apply Blk.other | apply Blk.drewN | apply Blk.drew | omega))), rfl⟩
        case round =>
          obtain ⟨j, rfl, hj, hrow⟩ := hrel
          obtain ⟨e0, e1, e2, e3, e4, e5, e6, e7⟩ := hrow.out.2.1.cells
          have hel := hrow.out.2.1.lt
          by_cases hlt : j < kids.length
          · have hji : (j : Int) < kids.length := by omega
            obtain ⟨d, hd⟩ : ∃ d, kids[j]? = some d := ⟨_, List.getElem?_eq_getElem hlt⟩
            obtain ⟨u, hu⟩ : ∃ u, vs[j]? = some u := ⟨_, List.getElem?_eq_getElem (by omega)⟩
            have hne : kids ≠ [] := fun e => by rw [e] at hlt; simp at hlt
            obtain ⟨b, o, rfl, hA, hce⟩ := HCE.out hne
            have hnc := hce j u hu
            have hbl := hnc.lt
            have hnc2 := hnc.keep (hrow.out.1.block b hbl)
            obtain ⟨c0, c1, c2, c3, c4, c5, c6, c7, rfl, q0, q1, q2, q3, q4, q5, q6, q7⟩ := hnc2
            have hN1 := HKI.out j _ d hu hd
            have hN2 := hN1.later hrow.out.1
            obtain ⟨z, y0, y1, y2, y3, sa, sn, sc, lo2, hi2, hsh⟩ := hN1.shapeI
            injection hsh with hsh
            simp at hsh
            obtain ⟨rfl, rfl, rfl, rfl, rfl, rfl, rfl, rfl⟩ := hsh
            have HN2 := hidden hN2
            have hcd := HCN.out j d hd
            have hcd2 : cntN d ≤ N := by omega
            have HCD := hidden hcd2
            have HD := hidden hd
            have hblr : b < wr.heap.size := Nat.lt_of_lt_of_le hbl hrow.out.1.size
            clear hN1 hN2 hce hnc hu hd hA hcd hcd2 hne
            go_wp2_with fail
            refine (HIH.out d HCD.out (by omega) _ _ A (by (with_reducible (repeat (first | exact HN2.out | apply NodeAt.alloc | apply NodeAt.putN | apply NodeAt.other | apply NodeAt.putO | apply NodeAt.otherO | apply NodeAt.drewN | apply NodeAt.drew | omega))))).mono ?_
            rintro e w2 ⟨rfl, hb2⟩
            have HB2 := hidden (show Below w.heap.size w w2 from (by (with_reducible (repeat (first | exact hrow.out.1 | apply bel_alloc | apply bel_put | apply bel_set | apply Below.drew | apply below_drewN | omega))) : Below w.heap.size w _).trans (hb2.mono (by have := hrow.out.1.size; simp; omega)))
            have HC2 := hidden (Blk.later hrow.out.2.1 hb2)
            clear hb2
            cases hr : endsN d with
            | true =>
              have HF := hidden (show endsN (.mk k f kids lo hi) = true from HW3.out.trans (any_hit HD.out hr))
              clear hr
              go_wp2_with fail
              go_ret
              exact ⟨by rw [HF.out]; rfl, HB2.out⟩
            | false =>
              have HF := hidden (any_more HD.out hr hrow.out.2.2)
              clear hr
              go_wp2_with fail
              go_roundw
              case rel => exact ⟨j + 1, by go_num, by omega, HB2.out, HC2.out, HF.out⟩
              case measure => simp [intOf]; omega
          · have hji : ¬ (j : Int) < kids.length := by omega
            have HF := hidden (show endsN (.mk k f kids lo hi) = false by
              rw [HW3.out]
              have := hrow.out.2.2
              rw [List.take_of_length_le (by omega)] at this
              exact this)
            go_wp2_with fail
            go_ret
            exact ⟨by rw [HF.out]; rfl, hrow.out.1⟩

end Go.Proofs.Ytjlihidmohokhaa

namespace Go.Proofs.Ytjlihidmohokhaa
open Go.RowKit Go.Proofs.Ytjlihidmohokhaa.Gl

/-- two nodes, each in a block of its own -/
structure TK (w : World) (b0 : Nat) (A0 : Nat → Prop) (z y0 y1 y2 y3 : Int) (sa : Option Addr) (sn sc : Nat) (lo hi : Int) (x : Nd) (b1 : Nat) (A1 : Nat → Prop) (qz qy0 qy1 qy2 qy3 : Int) (qsa : Option Addr) (qsn qsc : Nat) (qlo qhi : Int) (y : Nd) (X : World) : Prop where
  below : Below w.heap.size w X
  blk0 : Blk X b0 (.int .i64 z) (.int .u64 y0) (.int .u64 y1) (.int .u64 y2) (.int .u64 y3) (.slice sa sn sc) (.int .i64 lo) (.int .i64 hi)
  nod0 : NodeAt X A0 (.agg #[.int .i64 z, .int .u64 y0, .int .u64 y1, .int .u64 y2, .int .u64 y3, .slice sa sn sc, .int .i64 lo, .int .i64 hi]) x
  blk1 : Blk X b1 (.int .i64 qz) (.int .u64 qy0) (.int .u64 qy1) (.int .u64 qy2) (.int .u64 qy3) (.slice qsa qsn qsc) (.int .i64 qlo) (.int .i64 qhi)
  nod1 : NodeAt X A1 (.agg #[.int .i64 qz, .int .u64 qy0, .int .u64 qy1, .int .u64 qy2, .int .u64 qy3, .slice qsa qsn qsc, .int .i64 qlo, .int .i64 qhi]) y
section
variable {w X Y : World} {b0 b1 : Nat} {A0 A1 : Nat → Prop} {x y : Nd} {z y0 y1 y2 y3 : Int} {sa : Option Addr} {sn sc : Nat} {lo hi : Int} {qz qy0 qy1 qy2 qy3 : Int} {qsa : Option Addr} {qsn qsc : Nat} {qlo qhi : Int}
theorem TK.later (k : TK w b0 A0 z y0 y1 y2 y3 sa sn sc lo hi x b1 A1 qz qy0 qy1 qy2 qy3 qsa qsn qsc qlo qhi y X) (hb : Below X.heap.size X Y) : TK w b0 A0 z y0 y1 y2 y3 sa sn sc lo hi x b1 A1 qz qy0 qy1 qy2 qy3 qsa qsn qsc qlo qhi y Y :=
  ⟨k.below.trans (hb.mono k.below.size), k.blk0.later hb, k.nod0.later hb, k.blk1.later hb, k.nod1.later hb⟩
theorem TK.drew (k : TK w b0 A0 z y0 y1 y2 y3 sa sn sc lo hi x b1 A1 qz qy0 qy1 qy2 qy3 qsa qsn qsc qlo qhi y X) : TK w b0 A0 z y0 y1 y2 y3 sa sn sc lo hi x b1 A1 qz qy0 qy1 qy2 qy3 qsa qsn qsc qlo qhi y X.drew :=
  ⟨k.below.drew, k.blk0.drew, k.nod0.drew, k.blk1.drew, k.nod1.drew⟩
theorem TK.alloc (k : TK w b0 A0 z y0 y1 y2 y3 sa sn sc lo hi x b1 A1 qz qy0 qy1 qy2 qy3 qsa qsn qsc qlo qhi y X) (o : Obj) : TK w b0 A0 z y0 y1 y2 y3 sa sn sc lo hi x b1 A1 qz qy0 qy1 qy2 qy3 qsa qsn qsc qlo qhi y (X.alloc o) := k.later ((Below.refl _ X).alloc (Nat.le_refl _) o)
theorem TK.cells (k : TK w b0 A0 z y0 y1 y2 y3 sa sn sc lo hi x b1 A1 qz qy0 qy1 qy2 qy3 qsa qsn qsc qlo qhi y X) : (X.cell? ⟨b0, 0, none⟩ = some (.int .i64 z) ∧ X.cell? ⟨b0, 1, none⟩ = some (.int .u64 y0) ∧ X.cell? ⟨b0, 2, none⟩ = some (.int .u64 y1) ∧ X.cell? ⟨b0, 3, none⟩ = some (.int .u64 y2) ∧ X.cell? ⟨b0, 4, none⟩ = some (.int .u64 y3) ∧ X.cell? ⟨b0, 5, none⟩ = some (.slice sa sn sc) ∧ X.cell? ⟨b0, 6, none⟩ = some (.int .i64 lo) ∧ X.cell? ⟨b0, 7, none⟩ = some (.int .i64 hi)) ∧ (X.cell? ⟨b1, 0, none⟩ = some (.int .i64 qz) ∧ X.cell? ⟨b1, 1, none⟩ = some (.int .u64 qy0) ∧ X.cell? ⟨b1, 2, none⟩ = some (.int .u64 qy1) ∧ X.cell? ⟨b1, 3, none⟩ = some (.int .u64 qy2) ∧ X.cell? ⟨b1, 4, none⟩ = some (.int .u64 qy3) ∧ X.cell? ⟨b1, 5, none⟩ = some (.slice qsa qsn qsc) ∧ X.cell? ⟨b1, 6, none⟩ = some (.int .i64 qlo) ∧ X.cell? ⟨b1, 7, none⟩ = some (.int .i64 qhi)) := ⟨k.blk0.cells, k.blk1.cells⟩
theorem TK.held (k : TK w b0 A0 z y0 y1 y2 y3 sa sn sc lo hi x b1 A1 qz qy0 qy1 qy2 qy3 qsa qsn qsc qlo qhi y X) : X.cell? ⟨b0, 0, none⟩ = some (.int .i64 z) ∧ X.cell? ⟨b0, 1, none⟩ = some (.int .u64 y0) ∧ X.cell? ⟨b0, 2, none⟩ = some (.int .u64 y1) ∧ X.cell? ⟨b0, 3, none⟩ = some (.int .u64 y2) ∧ X.cell? ⟨b0, 4, none⟩ = some (.int .u64 y3) ∧ X.cell? ⟨b0, 5, none⟩ = some (.slice sa sn sc) ∧ X.cell? ⟨b0, 6, none⟩ = some (.int .i64 lo) ∧ X.cell? ⟨b0, 7, none⟩ = some (.int .i64 hi) ∧ X.cell? ⟨b1, 0, none⟩ = some (.int .i64 qz) ∧ X.cell? ⟨b1, 1, none⟩ = some (.int .u64 qy0) ∧ X.cell? ⟨b1, 2, none⟩ = some (.int .u64 qy1) ∧ X.cell? ⟨b1, 3, none⟩ = some (.int .u64 qy2) ∧ X.cell? ⟨b1, 4, none⟩ = some (.int .u64 qy3) ∧ X.cell? ⟨b1, 5, none⟩ = some (.slice qsa qsn qsc) ∧ X.cell? ⟨b1, 6, none⟩ = some (.int .i64 qlo) ∧ X.cell? ⟨b1, 7, none⟩ = some (.int .i64 qhi) ∧ TK w b0 A0 z y0 y1 y2 y3 sa sn sc lo hi x b1 A1 qz qy0 qy1 qy2 qy3 qsa qsn qsc qlo qhi y X := by
  obtain ⟨⟨h0, h1, h2, h3, h4, h5, h6, h7⟩, l0, l1, l2, l3, l4, l5, l6, l7⟩ := k.cells
  exact ⟨h0, h1, h2, h3, h4, h5, h6, h7, l0, l1, l2, l3, l4, l5, l6, l7, k⟩
end

end Go.Proofs.Ytjlihidmohokhaa

namespace Go.Proofs.Ytjlihidmohokhaa
open Go.RowKit Go.Proofs.Ytjlihidmohokhaa.Gl

theorem block_cell {X : World} {bb : Nat} {cs : Array Value} {t : TypeId} (h : X.heap[bb]? = some (.cells cs t)) (i : Nat) : X.cell? ⟨bb, i, none⟩ = cs[i]? := by
  simp [World.cell?, h]
theorem block_new (X : World) (o : Obj) : (X.alloc o).heap[X.heap.size]? = some o := by
  show (X.heap.push o)[X.heap.size]? = some o
  simp
theorem block_later {X Y : World} {o : Obj} (hb : Below (X.alloc o).heap.size (X.alloc o) Y) : Y.heap[X.heap.size]? = some o :=
  (hb.block X.heap.size (by simp)).trans (block_new X o)
theorem block_newD (X : World) (o : Obj) : (X.alloc o).drew.heap[X.heap.size]? = some o := block_new X o
theorem block_laterD {X Y : World} {o : Obj} (hb : Below (X.alloc o).drew.heap.size (X.alloc o).drew Y) : Y.heap[X.heap.size]? = some o :=
  (hb.block X.heap.size (by show _ < (X.alloc o).heap.size; simp)).trans (block_new X o)
theorem block_keep {X Y : World} {bb : Nat} {o : Obj} (h : X.heap[bb]? = some o) (hb : Below X.heap.size X Y) : Y.heap[bb]? = some o :=
  (hb.block bb (Array.getElem?_eq_some_iff.1 h).1).trans h
/-- a node of some kind over a list of parts -/
theorem over_at {X : World} {A : Nat → Prop} {kv : Value} {l : List Nd} {k lo hi : Int} (h : KidsAt X A kv l) : NodeAt X A (.agg #[.int .i64 k, .int .u64 0, .int .u64 0, .int .u64 0, .int .u64 0, kv, .int .i64 lo, .int .i64 hi]) (.mk k none_ l lo hi) := by
  have g := h.shut k none_ lo hi
  unfold nodeV at g
  rw [show word none_ 0 = 0 from word_none 0, show word none_ 1 = 0 from word_none 1, show word none_ 2 = 0 from word_none 2, show word none_ 3 = 0 from word_none 3] at g
  exact g
theorem kids_one {X : World} {bb : Nat} {t : TypeId} {a0 a1 a2 a3 a4 a5 a6 a7 : Value} {xa : Nd} (h : X.heap[bb]? = some (.cells #[a0, a1, a2, a3, a4, a5, a6, a7] t)) (ha : NodeAt X (fun _ => True) (.agg #[a0, a1, a2, a3, a4, a5, a6, a7]) xa) : KidsAt X (fun _ => True) (.slice (some ⟨bb, 0, none⟩) 1 1) [xa] := by
  have hcell := block_cell h
  refine ⟨some ⟨bb, 0, none⟩, 1, [.agg #[a0, a1, a2, a3, a4, a5, a6, a7]], rfl, rfl, Nat.le_refl _, fun _ => ⟨bb, 0, rfl, trivial, fun j v hj => ?_⟩, fun j v d hj hd => ?_⟩
  · match j, hj with
    | 0, hj =>
      simp at hj
      subst hj
      exact ⟨a0, a1, a2, a3, a4, a5, a6, a7, rfl, hcell 0, hcell 1, hcell 2, hcell 3, hcell 4, hcell 5, hcell 6, hcell 7⟩
  · match j, hj, hd with
    | 0, hj, hd =>
      simp at hj hd
      subst hj; subst hd
      exact ha
theorem kids_two {X : World} {bb : Nat} {t : TypeId} {a0 a1 a2 a3 a4 a5 a6 a7 b0 b1 b2 b3 b4 b5 b6 b7 : Value} {xa xb : Nd} (h : X.heap[bb]? = some (.cells #[a0, a1, a2, a3, a4, a5, a6, a7, b0, b1, b2, b3, b4, b5, b6, b7] t)) (ha : NodeAt X (fun _ => True) (.agg #[a0, a1, a2, a3, a4, a5, a6, a7]) xa) (hb : NodeAt X (fun _ => True) (.agg #[b0, b1, b2, b3, b4, b5, b6, b7]) xb) : KidsAt X (fun _ => True) (.slice (some ⟨bb, 0, none⟩) 2 2) [xa, xb] := by
  have hcell := block_cell h
  refine ⟨some ⟨bb, 0, none⟩, 2, [.agg #[a0, a1, a2, a3, a4, a5, a6, a7], .agg #[b0, b1, b2, b3, b4, b5, b6, b7]], rfl, rfl, Nat.le_refl _, fun _ => ⟨bb, 0, rfl, trivial, fun j v hj => ?_⟩, fun j v d hj hd => ?_⟩
  · match j, hj with
    | 0, hj =>
      simp at hj
      subst hj
      exact ⟨a0, a1, a2, a3, a4, a5, a6, a7, rfl, hcell 0, hcell 1, hcell 2, hcell 3, hcell 4, hcell 5, hcell 6, hcell 7⟩
    | 1, hj =>
      simp at hj
      subst hj
      exact ⟨b0, b1, b2, b3, b4, b5, b6, b7, rfl, hcell 8, hcell 9, hcell 10, hcell 11, hcell 12, hcell 13, hcell 14, hcell 15⟩
  · match j, hj, hd with
    | 0, hj, hd =>
      simp at hj hd
      subst hj; subst hd
      exact ha
    | 1, hj, hd =>
      simp at hj hd
      subst hj; subst hd
      exact hb
theorem kids_three {X : World} {bb : Nat} {t : TypeId} {a0 a1 a2 a3 a4 a5 a6 a7 b0 b1 b2 b3 b4 b5 b6 b7 c0 c1 c2 c3 c4 c5 c6 c7 : Value} {xa xb xc : Nd} (h : X.heap[bb]? = some (.cells #[a0, a1, a2, a3, a4, a5, a6, a7, b0, b1, b2, b3, b4, b5, b6, b7, c0, c1, c2, c3, c4, c5, c6, c7] t)) (ha : NodeAt X (fun _ => True) (.agg #[a0, a1, a2, a3, a4, a5, a6, a7]) xa) (hb : NodeAt X (fun _ => True) (.agg #[b0, b1, b2, b3, b4, b5, b6, b7]) xb) (hc : NodeAt X (fun _ => True) (.agg #[c0, c1, c2, c3, c4, c5, c6, c7]) xc) : KidsAt X (fun _ => True) (.slice (some ⟨bb, 0, none⟩) 3 3) [xa, xb, xc] := by
  have hcell := block_cell h
  refine ⟨some ⟨bb, 0, none⟩, 3, [.agg #[a0, a1, a2, a3, a4, a5, a6, a7], .agg #[b0, b1, b2, b3, b4, b5, b6, b7], .agg #[c0, c1, c2, c3, c4, c5, c6, c7]], rfl, rfl, Nat.le_refl _, fun _ => ⟨bb, 0, rfl, trivial, fun j v hj => ?_⟩, fun j v d hj hd => ?_⟩
  · match j, hj with
    | 0, hj =>
      simp at hj
      subst hj
      exact ⟨a0, a1, a2, a3, a4, a5, a6, a7, rfl, hcell 0, hcell 1, hcell 2, hcell 3, hcell 4, hcell 5, hcell 6, hcell 7⟩
    | 1, hj =>
      simp at hj
      subst hj
      exact ⟨b0, b1, b2, b3, b4, b5, b6, b7, rfl, hcell 8, hcell 9, hcell 10, hcell 11, hcell 12, hcell 13, hcell 14, hcell 15⟩
    | 2, hj =>
      simp at hj
      subst hj
      exact ⟨c0, c1, c2, c3, c4, c5, c6, c7, rfl, hcell 16, hcell 17, hcell 18, hcell 19, hcell 20, hcell 21, hcell 22, hcell 23⟩
  · match j, hj, hd with
    | 0, hj, hd =>
      simp at hj hd
      subst hj; subst hd
      exact ha
    | 1, hj, hd =>
      simp at hj hd
      subst hj; subst hd
      exact hb
    | 2, hj, hd =>
      simp at hj hd
      subst hj; subst hd
      exact hc

end Go.Proofs.Ytjlihidmohokhaa

namespace Go.Proofs.Ytjlihidmohokhaa
open Go.RowKit Go.Proofs.Ytjlihidmohokhaa.Gl

theorem pair_node {x y : Nd} {k : Int} (hk : k = 3 ∨ k = 4) (h1 : withinN x 100 = true) (h2 : sizeN x ≤ 500) (h3 : cntN x ≤ 100) (g1 : withinN y 100 = true) (g2 : sizeN y ≤ 500) (g3 : cntN y ≤ 100) : rightN (.mk k none_ [x, y] 0 0) = true ∧ cntN (.mk k none_ [x, y] 0 0) ≤ 1048576 := by
  have hw := right_of (k := k) (l := [x, y]) (m := 100) hk (by simp) (by
    intro d hd
    simp at hd
    rcases hd with rfl | rfl
    · exact h1
    · exact g1)
  refine ⟨?_, ?_⟩
  · unfold rightN
    rw [within_mono _ _ 200 (by omega) hw, size_cat k (by rcases hk with rfl | rfl <;> decide), Bool.and_true, decide_eq_true_eq]
    unfold sizes sizes sizes
    omega
  · rw [cntN]
    simp [cnts]
    omega
/-- is a text cut so, at a place before k, that both take its parts -/
noncomputable def cutTo (s : Tx) (x y : Nd) (k : Nat) : Bool := (List.range k).any fun i => wholeB (s.take i) x && wholeB (s.drop i) y
theorem cutTo_succ (s : Tx) (x y : Nd) (k : Nat) : cutTo s x y (k + 1) = (cutTo s x y k || (wholeB (s.take k) x && wholeB (s.drop k) y)) := by
  unfold cutTo
  rw [List.range_succ, List.any_append]
  simp
theorem cutTo_all {s : Tx} {x y : Nd} (hx : rightN x = true) (hy : rightN y = true) (ex : endsN x = false) (ey : endsN y = false) (hr : rightN (.mk 3 none_ [x, y] 0 0) = true) : wholeB s (.mk 3 none_ [x, y] 0 0) = cutTo s x y (s.length + 1) := by
  rw [Bool.eq_iff_iff, wholeB_is, cat_two s x y ex ey]
  unfold cutTo
  rw [List.any_eq_true]
  constructor
  · rintro ⟨_, i, hi, h1, h2⟩
    exact ⟨i, by rw [List.mem_range]; omega, by rw [Bool.and_eq_true, wholeB_is, wholeB_is]; exact ⟨⟨hx, h1⟩, hy, h2⟩⟩
  · rintro ⟨i, hi, h⟩
    rw [Bool.and_eq_true, wholeB_is, wholeB_is] at h
    rw [List.mem_range] at hi
    exact ⟨hr, i, by omega, h.1.2, h.2.2⟩

theorem tk_drewN {w X : World} {b0 b1 : Nat} {A0 A1 : Nat → Prop} {x y : Nd} {z y0 y1 y2 y3 : Int} {sa : Option Addr} {sn sc : Nat} {lo hi : Int} {qz qy0 qy1 qy2 qy3 : Int} {qsa : Option Addr} {qsn qsc : Nat} {qlo qhi : Int} (k : TK w b0 A0 z y0 y1 y2 y3 sa sn sc lo hi x b1 A1 qz qy0 qy1 qy2 qy3 qsa qsn qsc qlo qhi y X) (n : Nat) : TK w b0 A0 z y0 y1 y2 y3 sa sn sc lo hi x b1 A1 qz qy0 qy1 qy2 qy3 qsa qsn qsc qlo qhi y (X.drewN n) :=
  ⟨⟨k.below.os, k.below.tape, k.below.output, k.below.size, k.below.block⟩, k.blk0.drewN n, k.nod0.drewN n, k.blk1.drewN n, k.nod1.drewN n⟩

set_option maxHeartbeats 8000000 in
theorem nfaAlts_any (p q s : Tx) (w : World) (hp : p.length ≤ 281474976710656) (hq : q.length ≤ 281474976710656) (hs : s.length ≤ 281474976710656) :
    Calls Try.prog 5 #[S p, S q, S s] w fun e w' => e = .returned (.bool true) ∧ Below w.heap.size w w' := by
  have HSP := hidden (fun (X : World) => small_any p X hp)
  have HSQ := hidden (fun (X : World) => small_any q X hq)
  unfold S at HSP HSQ ⊢
  go_enter Try.func5, Try.ntmps5
  go_wp2_with fail
  refine (alive_any _).mono ?_
  rintro e w1 ⟨rfl, hb1⟩
  have HB1 := hidden hb1
  clear hb1
  go_wp2_with fail
  refine (HSP.out _).mono ?_
  rintro en w2 ⟨hb2, ha2⟩
  obtain ⟨vx, x, ok, rfl, hnx, hok⟩ := ha2
  obtain ⟨z, y0, y1, y2, y3, sa, sn, sc, lo, hi, rfl⟩ := hnx.shapeI
  have HB2 := hidden (HB1.out.trans (hb2.mono HB1.out.size))
  have HN2 := hidden (show NodeAt w2 (fun _ => True) (.agg #[.int .i64 z, .int .u64 y0, .int .u64 y1, .int .u64 y2, .int .u64 y3, .slice sa sn sc, .int .i64 lo, .int .i64 hi]) x from hnx.keep fun _ _ _ => ⟨rfl, trivial⟩)
  have HZ2 := hidden (Blk.new w2 (.int .i64 z) (.int .u64 y0) (.int .u64 y1) (.int .u64 y2) (.int .u64 y3) (.slice sa sn sc) (.int .i64 lo) (.int .i64 hi))
  clear hb2 hnx
  go_wp2_with fail
  refine (HSQ.out _).mono ?_
  rintro en w3 ⟨hb3, ha3⟩
  obtain ⟨vy, y, ok2, rfl, hny, hok2⟩ := ha3
  obtain ⟨qz, qy0, qy1, qy2, qy3, qsa, qsn, qsc, qlo, qhi, rfl⟩ := hny.shapeI
  have HB3 := hidden (show Below w.heap.size w w3 from (by (with_reducible (repeat (first | exact HB2.out | apply bel_alloc | apply bel_put | apply bel_set | apply Below.drew | apply below_drewN | omega))) : Below w.heap.size w _).trans (hb3.mono (by have := HB2.out.size; simp; omega)))
  have HN3 := hidden (NodeAt.later (A := fun _ => True) (v := .agg #[.int .i64 z, .int .u64 y0, .int .u64 y1, .int .u64 y2, .int .u64 y3, .slice sa sn sc, .int .i64 lo, .int .i64 hi]) (d := x) (by (with_reducible (repeat (first | exact HN2.out | apply NodeAt.alloc | apply NodeAt.putN | apply NodeAt.other | apply NodeAt.putO | apply NodeAt.otherO | apply NodeAt.drewN | apply NodeAt.drew | omega)))) hb3)
  have HZ3 := hidden (Blk.later HZ2.out hb3)
  have HM3 := hidden (show NodeAt w3 (fun _ => True) (.agg #[.int .i64 qz, .int .u64 qy0, .int .u64 qy1, .int .u64 qy2, .int .u64 qy3, .slice qsa qsn qsc, .int .i64 qlo, .int .i64 qhi]) y from hny.keep fun _ _ _ => ⟨rfl, trivial⟩)
  have HY3 := hidden (Blk.new w3 (.int .i64 qz) (.int .u64 qy0) (.int .u64 qy1) (.int .u64 qy2) (.int .u64 qy3) (.slice qsa qsn qsc) (.int .i64 qlo) (.int .i64 qhi))
  clear hb3 hny
  cases ok with
  | false =>
    clear hok hok2
    go_wp2_with fail
    go_ret
    exact ⟨rfl, by (with_reducible (repeat (first | exact HB3.out | apply bel_alloc | apply bel_put | apply bel_set | apply Below.drew | apply below_drewN | omega)))⟩
  | true =>
    have HOK := hidden (hok rfl).facts
    have hcx : cntN x ≤ 100 := (hok rfl).facts.2.2.2
    clear hok
    cases ok2 with
    | false =>
      clear hok2
      go_wp2_with fail
      go_ret
      exact ⟨rfl, by (with_reducible (repeat (first | exact HB3.out | apply bel_alloc | apply bel_put | apply bel_set | apply Below.drew | apply below_drewN | omega)))⟩
    | true =>
      have HOL := hidden (hok2 rfl).facts
      have hcy : cntN y ≤ 100 := (hok2 rfl).facts.2.2.2
      clear hok2
      by_cases h1 : s.length ≤ 30
      · have h1' : ¬ (30 : Int) < s.length := by omega
        have h1d : decide ((30 : Int) < s.length) = false := decide_eq_false h1'
        go_upto_region 6 with fail
        generalize hW5 : World.alloc _ _ = W5
        have HK5 := hidden (show TK w w2.heap.size (fun _ => True) z y0 y1 y2 y3 sa sn sc lo hi x w3.heap.size (fun _ => True) qz qy0 qy1 qy2 qy3 qsa qsn qsc qlo qhi y W5 from ⟨by rw [← hW5]; (with_reducible (repeat (first | exact HB3.out | apply bel_alloc | apply bel_put | apply bel_set | apply Below.drew | apply below_drewN | omega))), by rw [← hW5]; (with_reducible (repeat (first | exact HZ3.out | exact Blk.newAt (by simp) | apply Blk.alloc | apply Blk.put | apply Blk.putOther | apply Blk.other | apply Blk.drewN | apply Blk.drew | omega))), by rw [← hW5]; (with_reducible (repeat (first | exact HN3.out | apply NodeAt.alloc | apply NodeAt.putN | apply NodeAt.other | apply NodeAt.putO | apply NodeAt.otherO | apply NodeAt.drewN | apply NodeAt.drew | omega))), by rw [← hW5]; (with_reducible (repeat (first | exact HY3.out | exact Blk.newAt (by simp) | apply Blk.alloc | apply Blk.put | apply Blk.putOther | apply Blk.other | apply Blk.drewN | apply Blk.drew | omega))), by rw [← hW5]; (with_reducible (repeat (first | exact HM3.out | apply NodeAt.alloc | apply NodeAt.putN | apply NodeAt.other | apply NodeAt.putO | apply NodeAt.otherO | apply NodeAt.drewN | apply NodeAt.drew | omega)))⟩)
        clear hW5 HN2 HZ2 HB1 HB2 HB3 HN3 HZ3 HM3 HY3 HSP HSQ hp hq
        have HC := hidden (fun (X : World) (k : TK w w2.heap.size (fun _ => True) z y0 y1 y2 y3 sa sn sc lo hi x w3.heap.size (fun _ => True) qz qy0 qy1 qy2 qy3 qsa qsn qsc qlo qhi y X) => k.held)
        have HP3 := hidden (pair_node (k := 3) (Or.inl rfl) HOK.out.2.1 HOK.out.2.2.1 hcx HOL.out.2.1 HOL.out.2.2.1 hcy)
        have HP4 := hidden (pair_node (k := 4) (Or.inr rfl) HOK.out.2.1 HOK.out.2.2.1 hcx HOL.out.2.1 HOL.out.2.2.1 hcy)
        have HEI := hidden (show wholeB s (.mk 4 none_ [x, y] 0 0) = (wholeB s x || wholeB s y) by
          rw [Bool.eq_iff_iff, Bool.or_eq_true, wholeB_is, wholeB_is, wholeB_is, alt_two]
          simp [HP4.out.1, HOK.out.1, HOL.out.1])
        have HBA := hidden (fun (ex : endsN x = false) (ey : endsN y = false) => cutTo_all (s := s) HOK.out.1 HOL.out.1 ex ey HP3.out.1)
        have HMX := hidden (show ∀ X, TK w w2.heap.size (fun _ => True) z y0 y1 y2 y3 sa sn sc lo hi x w3.heap.size (fun _ => True) qz qy0 qy1 qy2 qy3 qsa qsn qsc qlo qhi y X → Calls Try.prog 13 #[.agg #[.int .i64 z, .int .u64 y0, .int .u64 y1, .int .u64 y2, .int .u64 y3, .slice sa sn sc, .int .i64 lo, .int .i64 hi], .string ⟨s.toArray⟩] X fun e w' => e = .returned (.bool (wholeB s x)) ∧ TK w w2.heap.size (fun _ => True) z y0 y1 y2 y3 sa sn sc lo hi x w3.heap.size (fun _ => True) qz qy0 qy1 qy2 qy3 qsa qsn qsc qlo qhi y w' from fun X k => (nMatches_any x _ s _ _ k.nod0 (by omega) (by omega)).mono fun e w7 h => ⟨h.1, k.later h.2⟩)
        have HMY := hidden (show ∀ X, TK w w2.heap.size (fun _ => True) z y0 y1 y2 y3 sa sn sc lo hi x w3.heap.size (fun _ => True) qz qy0 qy1 qy2 qy3 qsa qsn qsc qlo qhi y X → Calls Try.prog 13 #[.agg #[.int .i64 qz, .int .u64 qy0, .int .u64 qy1, .int .u64 qy2, .int .u64 qy3, .slice qsa qsn qsc, .int .i64 qlo, .int .i64 qhi], .string ⟨s.toArray⟩] X fun e w' => e = .returned (.bool (wholeB s y)) ∧ TK w w2.heap.size (fun _ => True) z y0 y1 y2 y3 sa sn sc lo hi x w3.heap.size (fun _ => True) qz qy0 qy1 qy2 qy3 qsa qsn qsc qlo qhi y w' from fun X k => (nMatches_any y _ s _ _ k.nod1 (by omega) (by omega)).mono fun e w7 h => ⟨h.1, k.later h.2⟩)
        have HMK := hidden (show ∀ (kk : Int) X bb, (kk = 3 ∨ kk = 4) → TK w w2.heap.size (fun _ => True) z y0 y1 y2 y3 sa sn sc lo hi x w3.heap.size (fun _ => True) qz qy0 qy1 qy2 qy3 qsa qsn qsc qlo qhi y X → X.heap[bb]? = some (.cells #[.int .i64 z, .int .u64 y0, .int .u64 y1, .int .u64 y2, .int .u64 y3, .slice sa sn sc, .int .i64 lo, .int .i64 hi, .int .i64 qz, .int .u64 qy0, .int .u64 qy1, .int .u64 qy2, .int .u64 qy3, .slice qsa qsn qsc, .int .i64 qlo, .int .i64 qhi] 26) → Calls Try.prog 13 #[.agg #[.int .i64 kk, .int .u64 0, .int .u64 0, .int .u64 0, .int .u64 0, .slice (some ⟨bb, 0, none⟩) 2 2, .int .i64 0, .int .i64 0], .string ⟨s.toArray⟩] X fun e w' => e = .returned (.bool (wholeB s (.mk kk none_ [x, y] 0 0))) ∧ TK w w2.heap.size (fun _ => True) z y0 y1 y2 y3 sa sn sc lo hi x w3.heap.size (fun _ => True) qz qy0 qy1 qy2 qy3 qsa qsn qsc qlo qhi y w' from fun kk X bb hz k hbb => (nMatches_any _ _ s _ _ (over_at (kids_two hbb k.nod0 k.nod1)) (pair_node hz HOK.out.2.1 HOK.out.2.2.1 hcx HOL.out.2.1 HOL.out.2.2.1 hcy).2 (by omega)).mono fun e w7 h => ⟨h.1, k.later h.2⟩)
        have HEX := hidden (show ∀ X, TK w w2.heap.size (fun _ => True) z y0 y1 y2 y3 sa sn sc lo hi x w3.heap.size (fun _ => True) qz qy0 qy1 qy2 qy3 qsa qsn qsc qlo qhi y X → Calls Try.prog 18 #[.agg #[.int .i64 z, .int .u64 y0, .int .u64 y1, .int .u64 y2, .int .u64 y3, .slice sa sn sc, .int .i64 lo, .int .i64 hi]] X fun e w' => e = .returned (.bool (endsN x)) ∧ TK w w2.heap.size (fun _ => True) z y0 y1 y2 y3 sa sn sc lo hi x w3.heap.size (fun _ => True) qz qy0 qy1 qy2 qy3 qsa qsn qsc qlo qhi y w' from fun X k => (ends_any 100 x hcx (by omega) _ _ _ k.nod0).mono fun e w7 h => ⟨h.1, k.later h.2⟩)
        have HEY := hidden (show ∀ X, TK w w2.heap.size (fun _ => True) z y0 y1 y2 y3 sa sn sc lo hi x w3.heap.size (fun _ => True) qz qy0 qy1 qy2 qy3 qsa qsn qsc qlo qhi y X → Calls Try.prog 18 #[.agg #[.int .i64 qz, .int .u64 qy0, .int .u64 qy1, .int .u64 qy2, .int .u64 qy3, .slice qsa qsn qsc, .int .i64 qlo, .int .i64 qhi]] X fun e w' => e = .returned (.bool (endsN y)) ∧ TK w w2.heap.size (fun _ => True) z y0 y1 y2 y3 sa sn sc lo hi x w3.heap.size (fun _ => True) qz qy0 qy1 qy2 qy3 qsa qsn qsc qlo qhi y w' from fun X k => (ends_any 100 y hcy (by omega) _ _ _ k.nod1).mono fun e w7 h => ⟨h.1, k.later h.2⟩)
        have HTX := hidden (show ∀ (k : Nat) X, k ≤ s.length → TK w w2.heap.size (fun _ => True) z y0 y1 y2 y3 sa sn sc lo hi x w3.heap.size (fun _ => True) qz qy0 qy1 qy2 qy3 qsa qsn qsc qlo qhi y X → Calls Try.prog 13 #[.agg #[.int .i64 z, .int .u64 y0, .int .u64 y1, .int .u64 y2, .int .u64 y3, .slice sa sn sc, .int .i64 lo, .int .i64 hi], .string ((⟨s.toArray⟩ : ByteArray).extract 0 k)] X fun e w' => e = .returned (.bool (wholeB (s.take k) x)) ∧ TK w w2.heap.size (fun _ => True) z y0 y1 y2 y3 sa sn sc lo hi x w3.heap.size (fun _ => True) qz qy0 qy1 qy2 qy3 qsa qsn qsc qlo qhi y w' from fun k X hk K => by
          rw [ext_text s 0 k, List.drop_zero, Nat.sub_zero]
          exact (nMatches_any x _ (s.take k) _ _ K.nod0 (by omega) (by rw [List.length_take]; omega)).mono fun e w7 h => ⟨h.1, K.later h.2⟩)
        have HTY := hidden (show ∀ (k : Nat) X, k ≤ s.length → TK w w2.heap.size (fun _ => True) z y0 y1 y2 y3 sa sn sc lo hi x w3.heap.size (fun _ => True) qz qy0 qy1 qy2 qy3 qsa qsn qsc qlo qhi y X → Calls Try.prog 13 #[.agg #[.int .i64 qz, .int .u64 qy0, .int .u64 qy1, .int .u64 qy2, .int .u64 qy3, .slice qsa qsn qsc, .int .i64 qlo, .int .i64 qhi], .string ((⟨s.toArray⟩ : ByteArray).extract k s.length)] X fun e w' => e = .returned (.bool (wholeB (s.drop k) y)) ∧ TK w w2.heap.size (fun _ => True) z y0 y1 y2 y3 sa sn sc lo hi x w3.heap.size (fun _ => True) qz qy0 qy1 qy2 qy3 qsa qsn qsc qlo qhi y w' from fun k X hk K => by
          rw [ext_text s k s.length, List.take_of_length_le (by rw [List.length_drop]; omega)]
          exact (nMatches_any y _ (s.drop k) _ _ K.nod1 (by omega) (by rw [List.length_drop]; omega)).mono fun e w7 h => ⟨h.1, K.later h.2⟩)
        clear hcx hcy HOK HOL HP3 HP4 h1' h1d
        go_cut [12] from 42 to 49 (fun u12 X => u12 = .bool (wholeB s x || wholeB s y) ∧ Hid (TK w w2.heap.size (fun _ => True) z y0 y1 y2 y3 sa sn sc lo hi x w3.heap.size (fun _ => True) qz qy0 qy1 qy2 qy3 qsa qsn qsc qlo qhi y X))
        case first =>
          obtain ⟨⟨z0, z1, z2, z3, z4, z5, z6, z7⟩, l0, l1, l2, l3, l4, l5, l6, l7⟩ := HK5.out.cells
          go_wp2_with fail
          with_reducible refine (HMX.out _ HK5.out).mono ?_
          rintro e w6 ⟨rfl, hK6⟩
          have HK6 := hidden hK6
          clear hK6 z0 z1 z2 z3 z4 z5 z6 z7 l0 l1 l2 l3 l4 l5 l6 l7
          obtain ⟨⟨z0, z1, z2, z3, z4, z5, z6, z7⟩, l0, l1, l2, l3, l4, l5, l6, l7⟩ := HK6.out.cells
          cases hx1 : wholeB s x with
          | true =>
            go_wp2_with fail
            go_meet
            case rel => exact ⟨by simp [hx1], HK6.out⟩
          | false =>
            go_wp2_with fail
            with_reducible refine (HMY.out _ HK6.out).mono ?_
            rintro e w7 ⟨rfl, hK7⟩
            have HK7 := hidden hK7
            clear hK7
            go_wp2_with fail
            go_meet
            case rel => exact ⟨by simp [hx1], HK7.out⟩
        case rest =>
          obtain ⟨rfl, HK⟩ := hcut
          clear HK5
          obtain ⟨⟨z0, z1, z2, z3, z4, z5, z6, z7⟩, l0, l1, l2, l3, l4, l5, l6, l7⟩ := HK.out.cells
          generalize hei : (wholeB s x || wholeB s y) = ei
          have HEI2 := hidden (HEI.out.trans hei)
          clear hei HEI
          go_wp2_with fail
          with_reducible refine (HMK.out 4 _ _ (Or.inr rfl) (TK.alloc HK.out _) (block_new _ _)).mono ?_
          rintro e w7 ⟨rfl, hK7⟩
          have HK7 := hidden hK7
          clear hK7 z0 z1 z2 z3 z4 z5 z6 z7 l0 l1 l2 l3 l4 l5 l6 l7
          rw [HEI2.out]
          obtain ⟨⟨z0, z1, z2, z3, z4, z5, z6, z7⟩, l0, l1, l2, l3, l4, l5, l6, l7⟩ := HK7.out.cells
          go_wp2_with fail
          with_reducible refine (HEX.out _ HK7.out).mono ?_
          rintro e w8 ⟨rfl, hK8⟩
          have HK8 := hidden hK8
          clear hK8 z0 z1 z2 z3 z4 z5 z6 z7 l0 l1 l2 l3 l4 l5 l6 l7
          obtain ⟨⟨z0, z1, z2, z3, z4, z5, z6, z7⟩, l0, l1, l2, l3, l4, l5, l6, l7⟩ := HK8.out.cells
          cases hex : endsN x with
          | true =>
            go_wp2_with fail
            go_ret
            exact ⟨rfl, HK8.out.below⟩
          | false =>
            go_wp2_with fail
            with_reducible refine (HEY.out _ HK8.out).mono ?_
            rintro e w9 ⟨rfl, hK9⟩
            have HK9 := hidden hK9
            clear hK9 z0 z1 z2 z3 z4 z5 z6 z7 l0 l1 l2 l3 l4 l5 l6 l7
            cases hey : endsN y with
            | true =>
              go_wp2_with fail
              go_ret
              exact ⟨rfl, HK9.out.below⟩
            | false =>
              have HAL := hidden (HBA.out hex hey)
              clear HBA hex hey HEX HEY HEI2 HMX HMY HK HK7 HK8
              go_wp2_with fail
              go_loopw [13, 14] (fun q i wr => ∃ k : Nat, q = .bool (cutTo s x y k) ∧ i = .int .i64 k ∧ k ≤ s.length + 1 ∧ Hid (TK w w2.heap.size (fun _ => True) z y0 y1 y2 y3 sa sn sc lo hi x w3.heap.size (fun _ => True) qz qy0 qy1 qy2 qy3 qsa qsn qsc qlo qhi y wr))
                (fun _ i _ => s.length + 1 - (intOf i).toNat)
              case atStart => exact ⟨0, rfl, rfl, Nat.zero_le _, HK9.out⟩
              case round =>
                obtain ⟨k, rfl, rfl, hk, HR⟩ := hrel
                clear HK9
                by_cases hlt : k ≤ s.length
                · have hltI : (k : Int) ≤ s.length := by omega
                  have hltd : decide ((k : Int) ≤ s.length) = true := decide_eq_true hltI
                  have hkI : (0 : Int) ≤ (k : Int) := by omega
                  have hsk : ((k : Int)).toNat = k := by omega
                  have HS := hidden (cutTo_succ s x y k)
                  cases hb : cutTo s x y k with
                  | true =>
                    have HN := hidden (show cutTo s x y (k + 1) = true by rw [HS.out, hb]; rfl)
                    clear HS
                    go_wp2_with fail
                    go_quiet (fail)
                    go_wp2_with fail
                    go_roundw
                    case rel => exact ⟨k + 1, by rw [HN.out], by go_num, by omega, tk_drewN HR.out _⟩
                    case measure => simp [intOf]; omega
                  | false =>
                    cases hm : wholeB (s.take k) x with
                    | false =>
                      have HN := hidden (show cutTo s x y (k + 1) = false by rw [HS.out, hb, hm]; rfl)
                      have HTF := hidden (HTX.out k)
                      rw [hm] at HTF
                      clear HS HTX HTY
                      go_wp2_with fail
                      refine wp_region_held_drew (S := fun X => X.cell? ⟨w2.heap.size, 0, none⟩ = some (.int .i64 z) ∧ X.cell? ⟨w2.heap.size, 1, none⟩ = some (.int .u64 y0) ∧ X.cell? ⟨w2.heap.size, 2, none⟩ = some (.int .u64 y1) ∧ X.cell? ⟨w2.heap.size, 3, none⟩ = some (.int .u64 y2) ∧ X.cell? ⟨w2.heap.size, 4, none⟩ = some (.int .u64 y3) ∧ X.cell? ⟨w2.heap.size, 5, none⟩ = some (.slice sa sn sc) ∧ X.cell? ⟨w2.heap.size, 6, none⟩ = some (.int .i64 lo) ∧ X.cell? ⟨w2.heap.size, 7, none⟩ = some (.int .i64 hi) ∧ X.cell? ⟨w3.heap.size, 0, none⟩ = some (.int .i64 qz) ∧ X.cell? ⟨w3.heap.size, 1, none⟩ = some (.int .u64 qy0) ∧ X.cell? ⟨w3.heap.size, 2, none⟩ = some (.int .u64 qy1) ∧ X.cell? ⟨w3.heap.size, 3, none⟩ = some (.int .u64 qy2) ∧ X.cell? ⟨w3.heap.size, 4, none⟩ = some (.int .u64 qy3) ∧ X.cell? ⟨w3.heap.size, 5, none⟩ = some (.slice qsa qsn qsc) ∧ X.cell? ⟨w3.heap.size, 6, none⟩ = some (.int .i64 qlo) ∧ X.cell? ⟨w3.heap.size, 7, none⟩ = some (.int .i64 qhi) ∧ TK w w2.heap.size (fun _ => True) z y0 y1 y2 y3 sa sn sc lo hi x w3.heap.size (fun _ => True) qz qy0 qy1 qy2 qy3 qsa qsn qsc qlo qhi y X) (by kernel_rfl) (by exact HC.out _ HR.out.drew) (fun hHeld => ?_)
                      refine wpAnyH_take (i := 0) (oi := ({ dst := some 70, op := Op.move (Operand.tmp 13), type := 4, pos := "law.go:64", after := #[], guard := none } : Oper)) (v := ?_) rfl (by kernel_rfl) (by kernel_rfl) (by kernel_rfl) (fun _ _ _ h => h) (Or.inl ⟨by rfl, ?_⟩) (by assumption) ?_
                      rotate_left
                      · (intro w hSw; (try dsimp only at hSw); (go_simp <;> with_reducible rfl))
                      simp only [Act.put, List.setIfInBounds_toArray, List.set_cons_zero, List.set_cons_succ]
                      refine wpAnyH_take (i := 1) (oi := ({ dst := some 71, op := Op.move (Operand.tmp 70), type := 4, pos := "law.go:64", after := #[{ on := 0, ground := Ground.data }], guard := none } : Oper)) (v := ?_) rfl (by kernel_rfl) (by kernel_rfl) (by kernel_rfl) (fun _ _ _ h => h) (Or.inl ⟨by rfl, ?_⟩) (by assumption) ?_
                      rotate_left
                      · (intro w hSw; (try dsimp only at hSw); (go_simp <;> with_reducible rfl))
                      simp only [Act.put, List.setIfInBounds_toArray, List.set_cons_zero, List.set_cons_succ]
                      refine wpAnyH_take (i := 2) (oi := ({ dst := some 72, op := Op.load 26 (Operand.tmp 8), type := 26, pos := "law.go:64", after := #[{ on := 1, ground := Ground.guard }], guard := some (1, false) } : Oper)) (v := ?_) rfl (by kernel_rfl) (by kernel_rfl) (by kernel_rfl) (fun _ _ _ h => h) (Or.inl ⟨by rfl, ?_⟩) (by assumption) ?_
                      rotate_left
                      · (intro w hSw; (try dsimp only at hSw); (go_simp <;> with_reducible rfl))
                      simp only [Act.put, List.setIfInBounds_toArray, List.set_cons_zero, List.set_cons_succ]
                      refine wpAnyH_take (i := 3) (oi := ({ dst := some 73, op := Op.move (Operand.tmp 2), type := 9, pos := "law.go:64", after := #[{ on := 1, ground := Ground.guard }], guard := some (1, false) } : Oper)) (v := ?_) rfl (by kernel_rfl) (by kernel_rfl) (by kernel_rfl) (fun _ _ _ h => h) (Or.inl ⟨by rfl, ?_⟩) (by assumption) ?_
                      rotate_left
                      · (intro w hSw; (try dsimp only at hSw); (go_simp <;> with_reducible rfl))
                      simp only [Act.put, List.setIfInBounds_toArray, List.set_cons_zero, List.set_cons_succ]
                      refine wpAnyH_take (i := 4) (oi := ({ dst := some 74, op := Op.move (Operand.tmp 14), type := 3, pos := "law.go:64", after := #[{ on := 1, ground := Ground.guard }], guard := some (1, false) } : Oper)) (v := ?_) rfl (by kernel_rfl) (by kernel_rfl) (by kernel_rfl) (fun _ _ _ h => h) (Or.inl ⟨by rfl, ?_⟩) (by assumption) ?_
                      rotate_left
                      · (intro w hSw; (try dsimp only at hSw); (go_simp <;> with_reducible rfl))
                      simp only [Act.put, List.setIfInBounds_toArray, List.set_cons_zero, List.set_cons_succ]
                      refine wpAnyH_take (i := 5) (oi := ({ dst := some 75, op := Op.slice 9 (Operand.tmp 73) none (some (Operand.tmp 74)) none, type := 9, pos := "law.go:64", after := #[{ on := 3, ground := Ground.data }, { on := 4, ground := Ground.data }, { on := 1, ground := Ground.guard }], guard := some (1, false) } : Oper)) (v := ?_) rfl (by kernel_rfl) (by kernel_rfl) (by kernel_rfl) (fun _ _ _ h => h) (Or.inl ⟨by rfl, ?_⟩) (by assumption) ?_
                      rotate_left
                      · (intro w hSw; (try dsimp only at hSw); (go_simp <;> with_reducible rfl))
                      simp only [Act.put, List.setIfInBounds_toArray, List.set_cons_zero, List.set_cons_succ]
                      refine wpAnyH_ready (rs := [6]) (by kernel_rfl) (by simp) ?_
                      refine AllReadyH.cons (o := ({ dst := some 76, op := Op.call { callee := Callee.value (Operand.func 13), args := #[Operand.tmp 72, Operand.tmp 75], argTypes := #[26, 9] }, type := 4, pos := "law.go:64", after := #[{ on := 2, ground := Ground.data }, { on := 5, ground := Ground.data }, { on := 1, ground := Ground.chain }, { on := 1, ground := Ground.guard }], guard := some (1, false) } : Oper)) rfl (fun K hK => ?_) AllReadyH.nil
                      go_simp
                      with_reducible refine (HTF.out _ hlt HR.out.drew).mono ?_
                      rintro e w7 ⟨rfl, hK7⟩
                      go_wp2_with fail
                      refine hK.out _ _ (by exact HC.out _ (by assumption)) (fun hHeld => ?_)
                      clear hK K
                      try simp only [Act.put, List.setIfInBounds_toArray, List.set_cons_zero, List.set_cons_succ]
                      refine wpAnyH_take (i := 7) (oi := ({ dst := some 77, op := Op.move (Operand.tmp 76), type := 4, pos := "law.go:64", after := #[{ on := 6, ground := Ground.data }, { on := 6, ground := Ground.chain }, { on := 1, ground := Ground.guard }], guard := some (1, false) } : Oper)) (v := ?_) rfl (by kernel_rfl) (by kernel_rfl) (by kernel_rfl) (fun _ _ _ h => h) (Or.inl ⟨by rfl, ?_⟩) (by assumption) ?_
                      rotate_left
                      · (intro w hSw; (try dsimp only at hSw); (go_simp <;> with_reducible rfl))
                      simp only [Act.put, List.setIfInBounds_toArray, List.set_cons_zero, List.set_cons_succ]
                      refine wpAnyH_take (i := 8) (oi := ({ dst := some 78, op := Op.load 26 (Operand.tmp 10), type := 26, pos := "law.go:64", after := #[{ on := 7, ground := Ground.guard }], guard := some (7, true) } : Oper)) (v := undef) rfl (by kernel_rfl) (by kernel_rfl) (by kernel_rfl) (fun _ _ _ h => h) (Or.inr ⟨by rfl, rfl⟩) (by assumption) ?_
                      simp only [Act.put, List.setIfInBounds_toArray, List.set_cons_zero, List.set_cons_succ]
                      refine wpAnyH_take (i := 9) (oi := ({ dst := some 79, op := Op.move (Operand.tmp 2), type := 9, pos := "law.go:64", after := #[{ on := 7, ground := Ground.guard }], guard := some (7, true) } : Oper)) (v := undef) rfl (by kernel_rfl) (by kernel_rfl) (by kernel_rfl) (fun _ _ _ h => h) (Or.inr ⟨by rfl, rfl⟩) (by assumption) ?_
                      simp only [Act.put, List.setIfInBounds_toArray, List.set_cons_zero, List.set_cons_succ]
                      refine wpAnyH_take (i := 10) (oi := ({ dst := some 80, op := Op.move (Operand.tmp 14), type := 3, pos := "law.go:64", after := #[{ on := 7, ground := Ground.guard }], guard := some (7, true) } : Oper)) (v := undef) rfl (by kernel_rfl) (by kernel_rfl) (by kernel_rfl) (fun _ _ _ h => h) (Or.inr ⟨by rfl, rfl⟩) (by assumption) ?_
                      simp only [Act.put, List.setIfInBounds_toArray, List.set_cons_zero, List.set_cons_succ]
                      refine wpAnyH_take (i := 11) (oi := ({ dst := some 81, op := Op.slice 9 (Operand.tmp 79) (some (Operand.tmp 80)) none none, type := 9, pos := "law.go:64", after := #[{ on := 9, ground := Ground.data }, { on := 10, ground := Ground.data }, { on := 7, ground := Ground.guard }], guard := some (7, true) } : Oper)) (v := undef) rfl (by kernel_rfl) (by kernel_rfl) (by kernel_rfl) (fun _ _ _ h => h) (Or.inr ⟨by rfl, rfl⟩) (by assumption) ?_
                      simp only [Act.put, List.setIfInBounds_toArray, List.set_cons_zero, List.set_cons_succ]
                      refine wpAnyH_take (i := 12) (oi := ({ dst := some 82, op := Op.call { callee := Callee.value (Operand.func 13), args := #[Operand.tmp 78, Operand.tmp 81], argTypes := #[26, 9] }, type := 4, pos := "law.go:64", after := #[{ on := 8, ground := Ground.data }, { on := 11, ground := Ground.data }, { on := 7, ground := Ground.chain }, { on := 7, ground := Ground.guard }], guard := some (7, true) } : Oper)) (v := undef) rfl (by kernel_rfl) (by kernel_rfl) (by kernel_rfl) (fun _ _ _ h => h) (Or.inr ⟨by rfl, rfl⟩) (by assumption) ?_
                      simp only [Act.put, List.setIfInBounds_toArray, List.set_cons_zero, List.set_cons_succ]
                      refine wpAnyH_take (i := 13) (oi := ({ dst := some 83, op := Op.pick (Operand.tmp 77) (Operand.tmp 82) (Operand.const (Value.bool false)), type := 4, pos := "law.go:64", after := #[{ on := 7, ground := Ground.data }, { on := 12, ground := Ground.data }, { on := 1, ground := Ground.guard }], guard := some (1, false) } : Oper)) (v := ?_) rfl (by kernel_rfl) (by kernel_rfl) (by kernel_rfl) (fun _ _ _ h => h) (Or.inl ⟨by rfl, ?_⟩) (by assumption) ?_
                      rotate_left
                      · (intro w hSw; (try dsimp only at hSw); (go_simp <;> with_reducible rfl))
                      simp only [Act.put, List.setIfInBounds_toArray, List.set_cons_zero, List.set_cons_succ]
                      refine wpAnyH_take (i := 14) (oi := ({ dst := some 84, op := Op.pick (Operand.tmp 71) (Operand.const (Value.bool true)) (Operand.tmp 83), type := 4, pos := "law.go:64", after := #[{ on := 1, ground := Ground.data }, { on := 13, ground := Ground.data }], guard := none } : Oper)) (v := ?_) rfl (by kernel_rfl) (by kernel_rfl) (by kernel_rfl) (fun _ _ _ h => h) (Or.inl ⟨by rfl, ?_⟩) (by assumption) ?_
                      rotate_left
                      · (intro w hSw; (try dsimp only at hSw); (go_simp <;> with_reducible rfl))
                      simp only [Act.put, List.setIfInBounds_toArray, List.set_cons_zero, List.set_cons_succ]
                      refine wpAnyH_take (i := 15) (oi := ({ dst := some 13, op := Op.assign (Operand.tmp 84), type := 4, pos := "law.go:64", after := #[{ on := 14, ground := Ground.data }, { on := 12, ground := Ground.chain }, { on := 0, ground := Ground.phase }, { on := 1, ground := Ground.phase }, { on := 2, ground := Ground.phase }, { on := 3, ground := Ground.phase }, { on := 4, ground := Ground.phase }, { on := 5, ground := Ground.phase }, { on := 6, ground := Ground.phase }, { on := 7, ground := Ground.phase }, { on := 8, ground := Ground.phase }, { on := 9, ground := Ground.phase }, { on := 10, ground := Ground.phase }, { on := 11, ground := Ground.phase }, { on := 12, ground := Ground.phase }, { on := 13, ground := Ground.phase }, { on := 14, ground := Ground.phase }], guard := none } : Oper)) (v := ?_) rfl (by kernel_rfl) (by kernel_rfl) (by kernel_rfl) (fun _ _ _ h => h) (Or.inl ⟨by rfl, ?_⟩) (by assumption) ?_
                      rotate_left
                      · (intro w hSw; (try dsimp only at hSw); (go_simp <;> with_reducible rfl))
                      simp only [Act.put, List.setIfInBounds_toArray, List.set_cons_zero, List.set_cons_succ]
                      refine wpAnyH_done (by kernel_rfl) ?_ _
                      go_wp2_with fail
                      go_roundw
                      case rel => exact ⟨k + 1, by rw [HN.out], by go_num, by omega, by assumption⟩
                      case measure => simp [intOf]; omega
                    | true =>
                      have HN := hidden (show cutTo s x y (k + 1) = wholeB (s.drop k) y by rw [HS.out, hb, hm]; simp)
                      have HTF := hidden (HTX.out k)
                      rw [hm] at HTF
                      clear HS HTX
                      go_wp2_with fail
                      go_region_held3 (fun X => X.cell? ⟨w2.heap.size, 0, none⟩ = some (.int .i64 z) ∧ X.cell? ⟨w2.heap.size, 1, none⟩ = some (.int .u64 y0) ∧ X.cell? ⟨w2.heap.size, 2, none⟩ = some (.int .u64 y1) ∧ X.cell? ⟨w2.heap.size, 3, none⟩ = some (.int .u64 y2) ∧ X.cell? ⟨w2.heap.size, 4, none⟩ = some (.int .u64 y3) ∧ X.cell? ⟨w2.heap.size, 5, none⟩ = some (.slice sa sn sc) ∧ X.cell? ⟨w2.heap.size, 6, none⟩ = some (.int .i64 lo) ∧ X.cell? ⟨w2.heap.size, 7, none⟩ = some (.int .i64 hi) ∧ X.cell? ⟨w3.heap.size, 0, none⟩ = some (.int .i64 qz) ∧ X.cell? ⟨w3.heap.size, 1, none⟩ = some (.int .u64 qy0) ∧ X.cell? ⟨w3.heap.size, 2, none⟩ = some (.int .u64 qy1) ∧ X.cell? ⟨w3.heap.size, 3, none⟩ = some (.int .u64 qy2) ∧ X.cell? ⟨w3.heap.size, 4, none⟩ = some (.int .u64 qy3) ∧ X.cell? ⟨w3.heap.size, 5, none⟩ = some (.slice qsa qsn qsc) ∧ X.cell? ⟨w3.heap.size, 6, none⟩ = some (.int .i64 qlo) ∧ X.cell? ⟨w3.heap.size, 7, none⟩ = some (.int .i64 qhi) ∧ TK w w2.heap.size (fun _ => True) z y0 y1 y2 y3 sa sn sc lo hi x w3.heap.size (fun _ => True) qz qy0 qy1 qy2 qy3 qsa qsn qsc qlo qhi y X) (first | exact HC.out _ HR.out.drew | exact HC.out _ (by assumption)) (first
                        | (go_at_call 13; with_reducible refine (HTF.out _ hlt (by first | assumption | exact HR.out.drew)).mono ?_; rintro e w7 ⟨rfl, hK7⟩)
                        | (go_at_call 13; with_reducible refine (HTY.out k _ hlt (by first | assumption | exact HR.out.drew)).mono ?_; rintro e w7 ⟨rfl, hK7⟩))
                      go_wp2_with fail
                      go_roundw
                      case rel => exact ⟨k + 1, by rw [HN.out], by go_num, by omega, by assumption⟩
                      case measure => simp [intOf]; omega
                · obtain rfl : k = s.length + 1 := by omega
                  obtain ⟨⟨z0, z1, z2, z3, z4, z5, z6, z7⟩, l0, l1, l2, l3, l4, l5, l6, l7⟩ := HR.out.cells
                  go_wp2_with fail
                  with_reducible refine (HMK.out 3 _ _ (Or.inl rfl) (TK.alloc HR.out _) (block_new _ _)).mono ?_
                  rintro e w7 ⟨rfl, hK7⟩
                  have HK7 := hidden hK7
                  clear hK7 z0 z1 z2 z3 z4 z5 z6 z7 l0 l1 l2 l3 l4 l5 l6 l7
                  rw [HAL.out]
                  go_wp2_with fail
                  go_ret
                  exact ⟨by simp, HK7.out.below⟩
      · have h1' : (30 : Int) < s.length := by omega
        go_wp2_with fail
        go_ret
        exact ⟨rfl, by (with_reducible (repeat (first | exact HB3.out | apply bel_alloc | apply bel_put | apply bel_set | apply Below.drew | apply below_drewN | omega)))⟩

end Go.Proofs.Ytjlihidmohokhaa

namespace Go.Proofs.Ytjlihidmohokhaa
open Go.ChangeShapes Go.WideShapes Go.ChangeAt Go.RowKit Go.Proofs.Ytjlihidmohokhaa.Gl
open Go.ChangeMaps (open_string shut_string)

theorem own : ownKnob Try.prog.godebug = none := by kernel_rfl


set_option maxRecDepth 100000 in
theorem nfaAlts_lifted (os : Os) (started : os.Started) (H : Type) (enc : TypeId × Value → H) :
    ReturnsInHanded {} Try.checked os 5 .any (Rows.nfaAltsSpec.pre6 enc Try.prog Try.f5 Rows.nfaAltsRow.domain false) (Rows.nfaAltsSpec.post enc Try.prog Try.f5 false true false false) := by
  refine returnsInHanded_of_change_sized (C := Try.checked) own started (by kernel_rfl) Try.func5
    (ChangeSpec.witness6 (enc := enc) (C := Try.checked) false ⟨#[], #[.string ByteArray.empty, .string ByteArray.empty, .string ByteArray.empty], []⟩ 8 (by kernel_rfl) (by kernel_rfl) (by kernel_rfl) (by kernel_rfl)) ?_
  intro W base args ds gs before hval0 hW hcnd hsz0 _
  have hval : ∀ (j : Nat) t v, Try.f5.params[j]? = some t → args[j]? = some v → Value.okWide Try.prog W .any base t v := hval0
  have hsz : (DataW.weightsEach Try.prog (Try.f5.params.toList ++ Rows.nfaAltsSpec.plain.varTypes Try.prog) (ds ++ gs)).all (· ≤ reachBytes) = true := hsz0
  have hW' := hW
  obtain ⟨p, q, hA0, hV, rfl, hfz, hnd⟩ := hW
  have hA : DataW.TrodAll enc Try.prog W 0 (fun _ => true) true Try.f5.params.toList args.toList ds p := hA0
  rw [Try.params5] at hA hval hsz
  obtain ⟨v0, vs0, d0, ds0, p0, q0, hargs, rfl, rfl, h0, r0⟩ := trodAll_cons hA
  obtain ⟨v1, vs1, d1, ds1, p1, q1, rfl, rfl, rfl, h1, r1⟩ := trodAll_cons r0
  obtain ⟨v2, vs2, d2, ds2, p2, q2, rfl, rfl, rfl, h2, r2⟩ := trodAll_cons r1
  obtain ⟨rfl, rfl, rfl⟩ := trodAll_nil r2
  obtain rfl : args = #[v0, v1, v2] := by cases args; simp_all
  obtain ⟨rfl, rfl⟩ := trodVars_none hV
  obtain ⟨s0, rfl, rfl, rfl, w0⟩ := open_string Try.underlying9 (hval 0 9 v0 rfl rfl) h0
  have z0 : s0.data.toList.length ≤ 281474976710656 := by have := sized_string hsz (j := 0) (t := 9) rfl rfl; unfold reachBytes at this; omega
  obtain ⟨s1, rfl, rfl, rfl, w1⟩ := open_string Try.underlying9 (hval 1 9 v1 rfl rfl) h1
  have z1 : s1.data.toList.length ≤ 281474976710656 := by have := sized_string hsz (j := 1) (t := 9) rfl rfl; unfold reachBytes at this; omega
  obtain ⟨s2, rfl, rfl, rfl, w2⟩ := open_string Try.underlying9 (hval 2 9 v2 rfl rfl) h2
  have z2 : s2.data.toList.length ≤ 281474976710656 := by have := sized_string hsz (j := 2) (t := 9) rfl rfl; unfold reachBytes at this; omega
  have hwalk := nfaAlts_any s0.data.toList s1.data.toList s2.data.toList W z0 z1 z2
  rw [S_data s0, S_data s1, S_data s2] at hwalk
  clear hA0 hval0
  refine hwalk.mono fun e W' ⟨he, bel⟩ => ?_
  subst he
  exact ⟨_, rfl, _, _, _, [], _, [], hW', trodAll_mk1 (shut_bool Try.underlying4 _), (trodAll_cons_mk (shut_string Try.underlying9 w0) (trodAll_cons_mk (shut_string Try.underlying9 w1) (trodAll_cons_mk (shut_string Try.underlying9 w2) trodAll_mk0))), rfl, bel.frame _, fun h => by cases h⟩

theorem nfaAlts_holds : Rows.NfaAltsSaid :=
  OpenClaim.holds_of_wide 5 Try.f5 rfl rfl rfl rfl rfl rfl rfl ⟨rfl, rfl, rfl, rfl, rfl⟩ rfl rfl rfl rfl rfl (by kernel_rfl) Try.func5 (by kernel_rfl)
    (of_decide_eq_true (by kernel_rfl)) (by unfold Func.isWrapper; first | (rw [if_pos (by decide +kernel)]; kernel_rfl) | (rw [if_neg (by decide +kernel)]; exact ⟨rfl, rfl⟩))
    (fun os started H enc _ => nfaAlts_lifted os started H enc)
#print axioms nfaAlts_holds
end Go.Proofs.Ytjlihidmohokhaa
