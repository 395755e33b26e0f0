/-
  The law NfaTells, called with any node in memory and any two texts, returns true, and nothing of what was in memory has turned; conditions: the lengths of both texts.
-/
import Derived.Test.YtjlihidmohokhaaNAlive
import Derived.Test.YtjlihidmohokhaaNMatch
import Derived.Test.YtjlihidmohokhaaNParts
import Derived.Test.YtjlihidmohokhaaNQSize
import Derived.Test.YtjlihidmohokhaaNSmall0
import Derived.Test.YtjlihidmohokhaaNTwo
import Derived.Deep.RegionHeld3
import Derived.Deep.CutRange
namespace Go.Proofs.Ytjlihidmohokhaa
open Go.RowKit Go.Proofs.Ytjlihidmohokhaa.Gl

set_option maxHeartbeats 8000000 in
theorem nfaTells_any (x : Nd) (v : Value) (t s : Tx) (w : World) (A : Nat → Prop) (hx : NodeAt w A v x) (ht : t.length ≤ 281474976710656) (hs : s.length ≤ 281474976710656) :
    Calls Try.prog 3 #[v, S t, S s] w fun e w' => e = .returned (.bool true) ∧ Below w.heap.size w w' := by
  have HEA := hidden (ere_any t)
  have HX0 := hidden hx
  obtain ⟨z, y0, y1, y2, y3, sa, sn, sc, lo, hi, rfl⟩ := hx.shapeI
  have HZ0 := hidden (Blk.new w (.int .i64 z) (.int .u64 y0) (.int .u64 y1) (.int .u64 y2) (.int .u64 y3) (.slice sa sn sc) (.int .i64 lo) (.int .i64 hi))
  have HB0 := hidden (Below.refl w.heap.size w)
  clear hx
  unfold S at HEA ⊢
  go_enter Try.func3, Try.ntmps3
  go_wp2_with fail
  refine (alive_any _).mono ?_
  rintro e w1 ⟨rfl, hb1⟩
  have HB1 := hidden (show Below w.heap.size w w1 from (by (with_reducible (repeat (first | exact HB0.out | apply bel_alloc | apply bel_put | apply bel_set | apply Below.drew | apply below_drewN | omega))) : Below w.heap.size w _).trans (hb1.mono (by simp)))
  have HZ1 := hidden (Blk.later HZ0.out hb1)
  have HX1 := hidden (NodeAt.later (A := A) (v := .agg #[.int .i64 z, .int .u64 y0, .int .u64 y1, .int .u64 y2, .int .u64 y3, .slice sa sn sc, .int .i64 lo, .int .i64 hi]) (d := x) (by (with_reducible (repeat (first | exact HX0.out | apply NodeAt.alloc | apply NodeAt.putN | apply NodeAt.other | apply NodeAt.putO | apply NodeAt.otherO | apply NodeAt.drewN | apply NodeAt.drew | omega)))) hb1)
  obtain ⟨z0, z1, z2, z3, z4, z5, z6, z7⟩ := HZ1.out.cells
  clear hb1
  go_wp2_with fail
  refine (few_any x _ _ A HX1.out).mono ?_
  rintro e w2 ⟨few, rfl, hb2, hfew⟩
  have HB2 := hidden (HB1.out.trans (hb2.mono HB1.out.size))
  have HZ2 := hidden (Blk.later HZ1.out hb2)
  have HX2 := hidden (HX1.out.later hb2)
  clear hb2 z0 z1 z2 z3 z4 z5 z6 z7
  obtain ⟨z0, z1, z2, z3, z4, z5, z6, z7⟩ := HZ2.out.cells
  cases few with
  | false =>
    go_wp2_with fail
    go_ret
    exact ⟨rfl, HB2.out⟩
  | true =>
    have hcx : cntN x ≤ 400 := hfew rfl
    clear hfew
    by_cases h1 : t.length ≤ 60
    · have h1' : ¬ (60 : Int) < t.length := by omega
      have h1d : decide ((60 : Int) < t.length) = false := decide_eq_false h1'
      by_cases h2 : s.length ≤ 40
      · have h2' : ¬ (40 : Int) < s.length := by omega
        have h2d : decide ((40 : Int) < s.length) = false := decide_eq_false h2'
        go_wp2_with fail
        refine (qSize_all x _ _ A HX2.out (by omega)).mono ?_
        rintro e w3 ⟨rfl, hb3⟩
        have HB3 := hidden (HB2.out.trans (hb3.mono HB2.out.size))
        have HZ3 := hidden (Blk.later HZ2.out hb3)
        have HX3 := hidden (HX2.out.later hb3)
        clear hb3 z0 z1 z2 z3 z4 z5 z6 z7
        generalize ((min 1073741824 (sizeN x) : Nat) : Int) = sz1
        by_cases h3 : (2000 : Int) < sz1
        · go_wp2_with fail
          go_ret
          exact ⟨rfl, HB3.out⟩
        · have h3d : decide ((2000 : Int) < sz1) = false := decide_eq_false h3
          go_wp2_with fail
          refine (HEA.out _).mono ?_
          rintro en w4 ⟨hb4, ha4⟩
          obtain ⟨vx, x2, ax, cx, rfl, hnx, hcx2, _⟩ := ha4.out
          have HN4 := hidden hnx
          obtain ⟨qz, qy0, qy1, qy2, qy3, qsa, qsn, qsc, qlo, qhi, rfl⟩ := hnx.shapeI
          have HB4 := hidden (HB3.out.trans (hb4.mono HB3.out.size))
          have HZ4 := hidden (Blk.later HZ3.out hb4)
          have HX4 := hidden (HX3.out.later hb4)
          have HY4 := hidden (Blk.new w4 (.int .i64 qz) (.int .u64 qy0) (.int .u64 qy1) (.int .u64 qy2) (.int .u64 qy3) (.slice qsa qsn qsc) (.int .i64 qlo) (.int .i64 qhi))
          clear hb4 ha4 hnx
          go_upto_region 5 with fail
          generalize hW5 : World.alloc _ _ = W5
          have HB5 := hidden (show Below w.heap.size w W5 by rw [← hW5]; (with_reducible (repeat (first | exact HB4.out | apply bel_alloc | apply bel_put | apply bel_set | apply Below.drew | apply below_drewN | omega))))
          have HK5 := hidden (show TK w w.heap.size A z y0 y1 y2 y3 sa sn sc lo hi x w4.heap.size (w3.heap.size ≤ ·) qz qy0 qy1 qy2 qy3 qsa qsn qsc qlo qhi x2 W5 from ⟨HB5.out, by rw [← hW5]; (with_reducible (repeat (first | exact HZ4.out | exact Blk.newAt (by simp) | apply Blk.alloc | apply Blk.put | apply Blk.putOther | apply Blk.other | apply Blk.drewN | apply Blk.drew | omega))), by rw [← hW5]; (with_reducible (repeat (first | exact HX4.out | apply NodeAt.alloc | apply NodeAt.putN | apply NodeAt.other | apply NodeAt.putO | apply NodeAt.otherO | apply NodeAt.drewN | apply NodeAt.drew | omega))), by rw [← hW5]; (with_reducible (repeat (first | exact HY4.out | exact Blk.newAt (by simp) | apply Blk.alloc | apply Blk.put | apply Blk.putOther | apply Blk.other | apply Blk.drewN | apply Blk.drew | omega))), by rw [← hW5]; (with_reducible (repeat (first | exact HN4.out | apply NodeAt.alloc | apply NodeAt.putN | apply NodeAt.other | apply NodeAt.putO | apply NodeAt.otherO | apply NodeAt.drewN | apply NodeAt.drew | omega)))⟩)
          clear hW5
          obtain ⟨z0, z1, z2, z3, z4, z5, z6, z7⟩ := HK5.out.blk1.cells
          go_wp2_with fail
          refine (qSize_all x2 _ _ _ HK5.out.nod1 (by omega)).mono ?_
          rintro e w6 ⟨rfl, hb6⟩
          have HK6 := hidden (HK5.out.later hb6)
          clear hb6 z0 z1 z2 z3 z4 z5 z6 z7
          generalize ((min 1073741824 (sizeN x2) : Nat) : Int) = sz2
          by_cases h4 : (2000 : Int) < sz2
          · go_wp2_with fail
            go_ret
            exact ⟨rfl, HK6.out.below⟩
          · go_upto_region 7 with fail
            have HC := hidden (fun (X : World) (k : TK w w.heap.size A z y0 y1 y2 y3 sa sn sc lo hi x w4.heap.size (w3.heap.size ≤ ·) qz qy0 qy1 qy2 qy3 qsa qsn qsc qlo qhi x2 X) => k.held)
            have HNMatches0 := hidden (show ∀ X, TK w w.heap.size A z y0 y1 y2 y3 sa sn sc lo hi x w4.heap.size (w3.heap.size ≤ ·) qz qy0 qy1 qy2 qy3 qsa qsn qsc qlo qhi x2 X → Calls Try.prog 13 #[.agg #[.int .i64 z, .int .u64 y0, .int .u64 y1, .int .u64 y2, .int .u64 y3, .slice sa sn sc, .int .i64 lo, .int .i64 hi], .string ⟨s.toArray⟩] X fun e w' => e = .returned (.bool (wholeB s x)) ∧ TK w w.heap.size A z y0 y1 y2 y3 sa sn sc lo hi x w4.heap.size (w3.heap.size ≤ ·) qz qy0 qy1 qy2 qy3 qsa qsn qsc qlo qhi x2 w' from fun X k => (nMatches_any _ _ s _ _ k.nod0 (by omega) (by omega)).mono fun e w7 h => ⟨h.1, k.later h.2⟩)
            have HNMatches1 := hidden (show ∀ X, TK w w.heap.size A z y0 y1 y2 y3 sa sn sc lo hi x w4.heap.size (w3.heap.size ≤ ·) qz qy0 qy1 qy2 qy3 qsa qsn qsc qlo qhi x2 X → Calls Try.prog 13 #[.agg #[.int .i64 qz, .int .u64 qy0, .int .u64 qy1, .int .u64 qy2, .int .u64 qy3, .slice qsa qsn qsc, .int .i64 qlo, .int .i64 qhi], .string ⟨s.toArray⟩] X fun e w' => e = .returned (.bool (wholeB s x2)) ∧ TK w w.heap.size A z y0 y1 y2 y3 sa sn sc lo hi x w4.heap.size (w3.heap.size ≤ ·) qz qy0 qy1 qy2 qy3 qsa qsn qsc qlo qhi x2 w' from fun X k => (nMatches_any _ _ s _ _ k.nod1 (by omega) (by omega)).mono fun e w7 h => ⟨h.1, k.later h.2⟩)
            have HRMatches0 := hidden (show ∀ X, TK w w.heap.size A z y0 y1 y2 y3 sa sn sc lo hi x w4.heap.size (w3.heap.size ≤ ·) qz qy0 qy1 qy2 qy3 qsa qsn qsc qlo qhi x2 X → Calls Try.prog 14 #[.agg #[.int .i64 z, .int .u64 y0, .int .u64 y1, .int .u64 y2, .int .u64 y3, .slice sa sn sc, .int .i64 lo, .int .i64 hi], .string ⟨s.toArray⟩] X fun e w' => e = .returned (.bool (wholeB s x)) ∧ TK w w.heap.size A z y0 y1 y2 y3 sa sn sc lo hi x w4.heap.size (w3.heap.size ≤ ·) qz qy0 qy1 qy2 qy3 qsa qsn qsc qlo qhi x2 w' from fun X k => (matches_any s (by omega) _ _ _ _ k.nod0 (by omega)).mono fun e w7 h => ⟨h.1, k.later h.2⟩)
            have HRMatches1 := hidden (show ∀ X, TK w w.heap.size A z y0 y1 y2 y3 sa sn sc lo hi x w4.heap.size (w3.heap.size ≤ ·) qz qy0 qy1 qy2 qy3 qsa qsn qsc qlo qhi x2 X → Calls Try.prog 14 #[.agg #[.int .i64 qz, .int .u64 qy0, .int .u64 qy1, .int .u64 qy2, .int .u64 qy3, .slice qsa qsn qsc, .int .i64 qlo, .int .i64 qhi], .string ⟨s.toArray⟩] X fun e w' => e = .returned (.bool (wholeB s x2)) ∧ TK w w.heap.size A z y0 y1 y2 y3 sa sn sc lo hi x w4.heap.size (w3.heap.size ≤ ·) qz qy0 qy1 qy2 qy3 qsa qsn qsc qlo qhi x2 w' from fun X k => (matches_any s (by omega) _ _ _ _ k.nod1 (by omega)).mono fun e w7 h => ⟨h.1, k.later h.2⟩)
            have HNFinds0 := hidden (show ∀ X, TK w w.heap.size A z y0 y1 y2 y3 sa sn sc lo hi x w4.heap.size (w3.heap.size ≤ ·) qz qy0 qy1 qy2 qy3 qsa qsn qsc qlo qhi x2 X → Calls Try.prog 15 #[.agg #[.int .i64 z, .int .u64 y0, .int .u64 y1, .int .u64 y2, .int .u64 y3, .slice sa sn sc, .int .i64 lo, .int .i64 hi], .string ⟨s.toArray⟩] X fun e w' => e = .returned (.bool (someB s x)) ∧ TK w w.heap.size A z y0 y1 y2 y3 sa sn sc lo hi x w4.heap.size (w3.heap.size ≤ ·) qz qy0 qy1 qy2 qy3 qsa qsn qsc qlo qhi x2 w' from fun X k => (nFinds_any _ _ s _ _ k.nod0 (by omega) (by omega)).mono fun e w7 h => ⟨h.1, k.later h.2⟩)
            have HNFinds1 := hidden (show ∀ X, TK w w.heap.size A z y0 y1 y2 y3 sa sn sc lo hi x w4.heap.size (w3.heap.size ≤ ·) qz qy0 qy1 qy2 qy3 qsa qsn qsc qlo qhi x2 X → Calls Try.prog 15 #[.agg #[.int .i64 qz, .int .u64 qy0, .int .u64 qy1, .int .u64 qy2, .int .u64 qy3, .slice qsa qsn qsc, .int .i64 qlo, .int .i64 qhi], .string ⟨s.toArray⟩] X fun e w' => e = .returned (.bool (someB s x2)) ∧ TK w w.heap.size A z y0 y1 y2 y3 sa sn sc lo hi x w4.heap.size (w3.heap.size ≤ ·) qz qy0 qy1 qy2 qy3 qsa qsn qsc qlo qhi x2 w' from fun X k => (nFinds_any _ _ s _ _ k.nod1 (by omega) (by omega)).mono fun e w7 h => ⟨h.1, k.later h.2⟩)
            have HRFinds0 := hidden (show ∀ X, TK w w.heap.size A z y0 y1 y2 y3 sa sn sc lo hi x w4.heap.size (w3.heap.size ≤ ·) qz qy0 qy1 qy2 qy3 qsa qsn qsc qlo qhi x2 X → Calls Try.prog 16 #[.agg #[.int .i64 z, .int .u64 y0, .int .u64 y1, .int .u64 y2, .int .u64 y3, .slice sa sn sc, .int .i64 lo, .int .i64 hi], .string ⟨s.toArray⟩] X fun e w' => e = .returned (.bool (someB s x)) ∧ TK w w.heap.size A z y0 y1 y2 y3 sa sn sc lo hi x w4.heap.size (w3.heap.size ≤ ·) qz qy0 qy1 qy2 qy3 qsa qsn qsc qlo qhi x2 w' from fun X k => (finds_any s (by omega) _ _ _ _ k.nod0 (by omega)).mono fun e w7 h => ⟨h.1, k.later h.2⟩)
            have HRFinds1 := hidden (show ∀ X, TK w w.heap.size A z y0 y1 y2 y3 sa sn sc lo hi x w4.heap.size (w3.heap.size ≤ ·) qz qy0 qy1 qy2 qy3 qsa qsn qsc qlo qhi x2 X → Calls Try.prog 16 #[.agg #[.int .i64 qz, .int .u64 qy0, .int .u64 qy1, .int .u64 qy2, .int .u64 qy3, .slice qsa qsn qsc, .int .i64 qlo, .int .i64 qhi], .string ⟨s.toArray⟩] X fun e w' => e = .returned (.bool (someB s x2)) ∧ TK w w.heap.size A z y0 y1 y2 y3 sa sn sc lo hi x w4.heap.size (w3.heap.size ≤ ·) qz qy0 qy1 qy2 qy3 qsa qsn qsc qlo qhi x2 w' from fun X k => (finds_any s (by omega) _ _ _ _ k.nod1 (by omega)).mono fun e w7 h => ⟨h.1, k.later h.2⟩)
            clear HEA HX0 HZ0 HB0 HB1 HZ1 HX1 HB2 HZ2 HX2 HB3 HZ3 HX3 HN4 HB4 HZ4 HX4 HY4 HB5 HK5 ht hs h1' h1d h2' h2d h1 h3 h3d
            go_region_held3 (fun X => X.cell? ⟨w.heap.size, 0, none⟩ = some (.int .i64 z) ∧ X.cell? ⟨w.heap.size, 1, none⟩ = some (.int .u64 y0) ∧ X.cell? ⟨w.heap.size, 2, none⟩ = some (.int .u64 y1) ∧ X.cell? ⟨w.heap.size, 3, none⟩ = some (.int .u64 y2) ∧ X.cell? ⟨w.heap.size, 4, none⟩ = some (.int .u64 y3) ∧ X.cell? ⟨w.heap.size, 5, none⟩ = some (.slice sa sn sc) ∧ X.cell? ⟨w.heap.size, 6, none⟩ = some (.int .i64 lo) ∧ X.cell? ⟨w.heap.size, 7, none⟩ = some (.int .i64 hi) ∧ X.cell? ⟨w4.heap.size, 0, none⟩ = some (.int .i64 qz) ∧ X.cell? ⟨w4.heap.size, 1, none⟩ = some (.int .u64 qy0) ∧ X.cell? ⟨w4.heap.size, 2, none⟩ = some (.int .u64 qy1) ∧ X.cell? ⟨w4.heap.size, 3, none⟩ = some (.int .u64 qy2) ∧ X.cell? ⟨w4.heap.size, 4, none⟩ = some (.int .u64 qy3) ∧ X.cell? ⟨w4.heap.size, 5, none⟩ = some (.slice qsa qsn qsc) ∧ X.cell? ⟨w4.heap.size, 6, none⟩ = some (.int .i64 qlo) ∧ X.cell? ⟨w4.heap.size, 7, none⟩ = some (.int .i64 qhi) ∧ TK w w.heap.size A z y0 y1 y2 y3 sa sn sc lo hi x w4.heap.size (w3.heap.size ≤ ·) qz qy0 qy1 qy2 qy3 qsa qsn qsc qlo qhi x2 X) (first | exact HC.out _ HK6.out.drew | exact HC.out _ (by assumption)) (first
              | (go_at_call 13; with_reducible refine (HNMatches0.out _ (by first | assumption | exact HK6.out.drew)).mono ?_; rintro e w7 ⟨rfl, hK7⟩)
              | (go_at_call 13; with_reducible refine (HNMatches1.out _ (by first | assumption | exact HK6.out.drew)).mono ?_; rintro e w7 ⟨rfl, hK7⟩)
              | (go_at_call 14; with_reducible refine (HRMatches0.out _ (by first | assumption | exact HK6.out.drew)).mono ?_; rintro e w7 ⟨rfl, hK7⟩)
              | (go_at_call 14; with_reducible refine (HRMatches1.out _ (by first | assumption | exact HK6.out.drew)).mono ?_; rintro e w7 ⟨rfl, hK7⟩)
              | (go_at_call 15; with_reducible refine (HNFinds0.out _ (by first | assumption | exact HK6.out.drew)).mono ?_; rintro e w7 ⟨rfl, hK7⟩)
              | (go_at_call 15; with_reducible refine (HNFinds1.out _ (by first | assumption | exact HK6.out.drew)).mono ?_; rintro e w7 ⟨rfl, hK7⟩)
              | (go_at_call 16; with_reducible refine (HRFinds0.out _ (by first | assumption | exact HK6.out.drew)).mono ?_; rintro e w7 ⟨rfl, hK7⟩)
              | (go_at_call 16; with_reducible refine (HRFinds1.out _ (by first | assumption | exact HK6.out.drew)).mono ?_; rintro e w7 ⟨rfl, hK7⟩))
            go_wp2_with fail
            go_ret
            rename_i hHeld
            exact ⟨by simp, TK.below (by assumption)⟩
      · have h2' : (40 : Int) < s.length := by omega
        go_wp2_with fail
        go_ret
        exact ⟨rfl, HB2.out⟩
    · have h1' : (60 : Int) < t.length := by omega
      go_wp2_with fail
      go_ret
      exact ⟨rfl, HB2.out⟩

end Go.Proofs.Ytjlihidmohokhaa
