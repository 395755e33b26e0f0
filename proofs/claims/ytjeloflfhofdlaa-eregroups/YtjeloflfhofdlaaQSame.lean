/-
  What the document's own SameNode answers of a node that lies in memory twice: true; condition: how many parts it has.
-/
import Derived.Test.YtjeloflfhofdlaaEWithin
import Derived.Deep.RegionHeld3
namespace Go.Proofs.Ytjeloflfhofdlaa
open Go.RowKit Go.Proofs.Ytjeloflfhofdlaa.Gl

theorem eqArr2 (a b c d : Int) (w : World) : (Op.equalIn 10000 24 (.agg #[.int .u64 a, .int .u64 b, .int .u64 c, .int .u64 d]) (.agg #[.int .u64 a, .int .u64 b, .int .u64 c, .int .u64 d])).run Try.prog w = .ok true w := by
  have u3 := Try.underlying23
  have a3 := Try.isAgg23
  have z3 := Try.sizeOf23
  rw [show (10000 : Nat) = 9999 + 1 from rfl, Op.equalIn]
  simp only [Sem.run_bind, run_underlying Try.underlying24, Result.andThen_ok]
  simp only [Std.Legacy.Range.forIn_eq_forIn_range', Std.Legacy.Range.size, Nat.sub_zero, Nat.add_sub_cancel, Nat.div_one, List.range'_succ, List.range'_zero, List.forIn_cons, List.forIn_nil]
  go_simp

set_option maxRecDepth 4000 in
set_option maxHeartbeats 8000000 in
theorem same_any : ∀ (N : Nat) (x : Nd), cntN x ≤ N → N ≤ 1048576 → ∀ (v1 v2 : Value) (w : World) (A1 A2 : Nat → Prop), NodeAt w A1 v1 x → NodeAt w A2 v2 x →
    Calls Try.prog 14 #[v1, v2] w fun e w' => e = .returned (.bool true) ∧ Below w.heap.size w w' := by
  intro N
  induction N with
  | zero => intro x hx; have := cntN_pos x; omega
  | succ N ih =>
    intro x hx hN v1 v2 w A1 A2 hnode1 hnode2
    obtain ⟨k, f, kids, lo, hi⟩ := x
    obtain ⟨kv1, rfl, hk1⟩ := hnode1.open
    obtain ⟨a1, cap1, vs1, rfl, hvl1, hcap1, hcells1, hkids1⟩ := hk1
    obtain ⟨kv2, rfl, hk2⟩ := hnode2.open
    obtain ⟨a2, cap2, vs2, rfl, hvl2, hcap2, hcells2, hkids2⟩ := hk2
    rw [cntN] at hx
    have hlen := cnts_len kids
    have HIH := hidden ih
    have HK1 := hidden hkids1
    have HK2 := hidden hkids2
    have HE1 := hidden hcells1
    have HE2 := hidden hcells2
    have HCN := hidden (cnts_at kids)
    have hxb : kids.length ≤ 1048576 := by omega
    have hcn : cnts kids ≤ N := by omega
    have HB0 := hidden (Below.refl w.heap.size w)
    have HQ := fun W => eqArr2 (word f 0) (word f 1) (word f 2) (word f 3) W
    have HZ1 := hidden (Blk.new w (.int .i64 k) (.int .u64 (word f 0)) (.int .u64 (word f 1)) (.int .u64 (word f 2)) (.int .u64 (word f 3)) (.slice a1 kids.length cap1) (.int .i64 lo) (.int .i64 hi))
    have HZ2 := hidden (Blk.new (w.alloc (.cells #[.int .i64 k, .int .u64 (word f 0), .int .u64 (word f 1), .int .u64 (word f 2), .int .u64 (word f 3), .slice a1 kids.length cap1, .int .i64 lo, .int .i64 hi] 27)) (.int .i64 k) (.int .u64 (word f 0)) (.int .u64 (word f 1)) (.int .u64 (word f 2)) (.int .u64 (word f 3)) (.slice a2 kids.length cap2) (.int .i64 lo) (.int .i64 hi))
    clear ih hkids1 hkids2 hcells1 hcells2 hnode1 hnode2 hx hlen
    unfold nodeV
    go_enter Try.func14, Try.ntmps14
    go_wp2_with fail
    go_loopw [5] (fun i wr => ∃ j : Nat, i = .int .i64 j ∧ j ≤ kids.length ∧ Hid (Below w.heap.size w wr ∧ Blk wr w.heap.size (.int .i64 k) (.int .u64 (word f 0)) (.int .u64 (word f 1)) (.int .u64 (word f 2)) (.int .u64 (word f 3)) (.slice a1 kids.length cap1) (.int .i64 lo) (.int .i64 hi) ∧ Blk wr (w.heap.size + 1) (.int .i64 k) (.int .u64 (word f 0)) (.int .u64 (word f 1)) (.int .u64 (word f 2)) (.int .u64 (word f 3)) (.slice a2 kids.length cap2) (.int .i64 lo) (.int .i64 hi)))
      (fun i _ => kids.length - (intOf i).toNat)
    case atStart => exact ⟨0, rfl, Nat.zero_le _, by (with_reducible (repeat (first | exact HB0.out | apply bel_alloc | apply bel_put | apply bel_set | apply Below.drew | apply below_drewN | omega))), by (with_reducible (repeat (first | exact HZ1.out | exact Blk.newAt (by simp) | apply Blk.alloc | apply Blk.put | apply Blk.putOther | apply Blk.other | apply Blk.drewN | apply Blk.drew | omega))), by have h5 := HZ2.out; rw [World.size_alloc] at h5; exact h5⟩
    case round =>
      obtain ⟨j, rfl, hj, hrow⟩ := hrel
      obtain ⟨e0, e1, e2, e3, e4, e5, e6, e7⟩ := hrow.out.2.1.cells
      obtain ⟨g0, g1, g2, g3, g4, g5, g6, g7⟩ := hrow.out.2.2.cells
      have hel := hrow.out.2.1.lt
      have hgl := hrow.out.2.2.lt
      by_cases hlt : j < kids.length
      · have hji : (j : Int) < kids.length := by omega
        obtain ⟨d, hd⟩ : ∃ d, kids[j]? = some d := ⟨_, List.getElem?_eq_getElem hlt⟩
        obtain ⟨u1, hu1⟩ : ∃ u, vs1[j]? = some u := ⟨_, List.getElem?_eq_getElem (by omega)⟩
        obtain ⟨u2, hu2⟩ : ∃ u, vs2[j]? = some u := ⟨_, List.getElem?_eq_getElem (by omega)⟩
        have hne : kids ≠ [] := fun e => by rw [e] at hlt; simp at hlt
        obtain ⟨b1, o1, rfl, hA1, hce1⟩ := HE1.out hne
        obtain ⟨b2, o2, rfl, hA2, hce2⟩ := HE2.out hne
        have hnc1 := hce1 j u1 hu1
        have hnc2 := hce2 j u2 hu2
        have hbl1 := hnc1.lt
        have hbl2 := hnc2.lt
        have hnd1 := hnc1.keep (hrow.out.1.block b1 hbl1)
        have hnd2 := hnc2.keep (hrow.out.1.block b2 hbl2)
        obtain ⟨c0, c1, c2, c3, c4, c5, c6, c7, rfl, q0, q1, q2, q3, q4, q5, q6, q7⟩ := hnd1
        obtain ⟨d0, d1, d2, d3, d4, d5, d6, d7, rfl, p0, p1, p2, p3, p4, p5, p6, p7⟩ := hnd2
        have hN1 := HK1.out j _ d hu1 hd
        have hN2 := HK2.out j _ d hu2 hd
        have hM1 := hN1.later hrow.out.1
        have hM2 := hN2.later hrow.out.1
        obtain ⟨z, y0, y1, y2, y3, sa, sn, sc, lo1, hi1, hsh⟩ := hN1.shapeI
        injection hsh with hsh
        simp at hsh
        obtain ⟨rfl, rfl, rfl, rfl, rfl, rfl, rfl, rfl⟩ := hsh
        obtain ⟨z', y0', y1', y2', y3', sa', sn', sc', lo2, hi2, hsh⟩ := hN2.shapeI
        injection hsh with hsh
        simp at hsh
        obtain ⟨rfl, rfl, rfl, rfl, rfl, rfl, rfl, rfl⟩ := hsh
        have HM1 := hidden hM1
        have HM2 := hidden hM2
        have hcd := HCN.out j d hd
        have hcd2 : cntN d ≤ N := by omega
        have HCD := hidden hcd2
        have hblr1 : b1 < wr.heap.size := Nat.lt_of_lt_of_le hbl1 hrow.out.1.size
        have hblr2 : b2 < wr.heap.size := Nat.lt_of_lt_of_le hbl2 hrow.out.1.size
        clear hN1 hN2 hM1 hM2 hce1 hce2 hnc1 hnc2 hu1 hu2 hd hA1 hA2 hcd hcd2 hne
        go_upto_region 6 with fail
        go_region_with (go_at_call 14; refine (HIH.out d HCD.out (by omega) _ _ _ A1 A2 (by first | exact HM1.out | exact HM1.out.drew | exact HM1.out.drewN _) (by first | exact HM2.out | exact HM2.out.drew | exact HM2.out.drewN _)).mono ?_; rintro e w2 ⟨rfl, hb2⟩)
        all_goals
          have HB2 := hidden (show Below w.heap.size w w2 from (by (with_reducible (repeat (first | exact hrow.out.1 | apply bel_alloc | apply bel_put | apply bel_set | apply Below.drew | apply below_drewN | omega))) : Below w.heap.size w _).trans (hb2.mono (by have := hrow.out.1.size; simp; omega)))
          have HC2 := hidden (Blk.later (b := w.heap.size) (by (with_reducible (repeat (first | exact hrow.out.2.1 | exact Blk.newAt (by simp) | apply Blk.alloc | apply Blk.put | apply Blk.putOther | apply Blk.other | apply Blk.drewN | apply Blk.drew | omega)))) hb2)
          have HD2 := hidden (Blk.later (b := w.heap.size + 1) (by (with_reducible (repeat (first | exact hrow.out.2.2 | exact Blk.newAt (by simp) | apply Blk.alloc | apply Blk.put | apply Blk.putOther | apply Blk.other | apply Blk.drewN | apply Blk.drew | omega)))) hb2)
          clear hb2
          go_wp2_with fail
          go_roundw
          case rel => exact ⟨j + 1, by go_num, by omega, HB2.out, HC2.out, HD2.out⟩
          case measure => simp [intOf]; omega
      · have hji : ¬ (j : Int) < kids.length := by omega
        go_wp2_with fail
        go_ret
        exact ⟨rfl, hrow.out.1⟩

end Go.Proofs.Ytjeloflfhofdlaa
