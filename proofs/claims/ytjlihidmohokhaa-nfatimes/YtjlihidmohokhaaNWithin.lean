/-
  What the program's rightWithin answers of a node that lies in memory; conditions: how many parts it has, and how many may be within one another.
-/
import Derived.Test.YtjlihidmohokhaaNRight
namespace Go.Proofs.Ytjlihidmohokhaa
open Go.RowKit Go.Proofs.Ytjlihidmohokhaa.Gl

set_option maxHeartbeats 8000000 in
theorem within_any : ∀ (N : Nat) (x : Nd), cntN x ≤ N → N ≤ 1048576 → ∀ (most : Nat) (v : Value) (w : World) (A : Nat → Prop), most ≤ 1048576 → NodeAt w A v x →
    Calls Try.prog 31 #[v, .int .i64 most] w fun e w' => e = .returned (.bool (withinN x most)) ∧ Below w.heap.size w w' := by
  intro N
  induction N with
  | zero => intro x hx; have := cntN_pos x; omega
  | succ N ih =>
    intro x hx hN most v w A hmost hnode
    obtain ⟨k, f, kids, lo, hi⟩ := x
    obtain ⟨kv, rfl, hkids0⟩ := hnode.open
    obtain ⟨a, cap, vs, rfl, hvl, hcap, hcells, hkids⟩ := hkids0
    rw [cntN] at hx
    have hlen := cnts_len kids
    have HW := hidden (withinN_is k f kids lo hi most)
    have HIH := hidden ih
    have HKI := hidden hkids
    have HCE := hidden hcells
    have HCN := hidden (cnts_at kids)
    have hxb : kids.length ≤ 1048576 := by omega
    have hcn : cnts kids ≤ N := by omega
    have HB0 := hidden (Below.refl w.heap.size w)
    clear ih hkids hcells hnode hx hlen
    unfold nodeV
    go_enter Try.func31, Try.ntmps31
    go_wp2_with fail
    rw [show Value.agg #[.int .i64 k, .int .u64 (word f 0), .int .u64 (word f 1), .int .u64 (word f 2), .int .u64 (word f 3), .slice a kids.length cap, .int .i64 lo, .int .i64 hi] = nodeV k f (.slice a kids.length cap) lo hi from rfl]
    refine (rightAlone_any k f a kids.length cap lo hi _ hxb).mono ?_
    rintro e w1 ⟨rfl, hb1⟩
    have HB1 := hidden (show Below w.heap.size w w1 from (by (with_reducible (repeat (first | exact HB0.out | apply bel_alloc | apply bel_put | apply bel_set | apply Below.drew | apply below_drewN | omega))) : Below w.heap.size w _).trans (hb1.mono (by simp)))
    have HC1 := hidden (Blk.later (Blk.new w (.int .i64 k) (.int .u64 (word f 0)) (.int .u64 (word f 1)) (.int .u64 (word f 2)) (.int .u64 (word f 3)) (.slice a kids.length cap) (.int .i64 lo) (.int .i64 hi)) hb1)
    obtain ⟨c0, c1, c2, c3, c4, c5, c6, c7⟩ := HC1.out.cells
    have hcl := HC1.out.lt
    clear hb1
    cases hal : aloneN k f kids.length lo hi with
    | false =>
      have HF := hidden (show withinN (.mk k f kids lo hi) most = false by rw [HW.out, hal]; rfl)
      clear hal
      go_wp2_with fail
      go_ret
      exact ⟨by rw [HF.out]; rfl, HB1.out⟩
    | true =>
      have HW2 := hidden (show withinN (.mk k f kids lo hi) most = (!(most == 0 && decide (0 < kids.length)) && kids.all (fun d => withinN d (most - 1))) by rw [HW.out, hal]; simp)
      clear hal HW
      have hloop : ∀ (hgo : ¬ (most = 0 ∧ 0 < kids.length)), True := fun _ => trivial
      clear hloop
      by_cases hm0 : most = 0 ∧ 0 < kids.length
      · obtain ⟨rfl, hk0⟩ := hm0
        have HF := hidden (show withinN (.mk k f kids lo hi) 0 = false by rw [HW2.out]; simp [hk0])
        have hki : (0 : Int) < kids.length := by omega
        go_wp2_with fail
        go_ret
        exact ⟨by rw [HF.out]; rfl, HB1.out⟩
      · have HW3 := hidden (show withinN (.mk k f kids lo hi) most = kids.all (fun d => withinN d (most - 1)) by
          rw [HW2.out]
          have : (most == 0 && decide (0 < kids.length)) = false := by
            by_cases h1 : most = 0
            · have : ¬ 0 < kids.length := fun h2 => hm0 ⟨h1, h2⟩
              simp [this]
            · simp [h1]
          rw [this]
          rfl)
        have HM0 := hidden hm0
        clear hm0 HW2
        by_cases hmz : most = 0
        · subst hmz
          have hk0 : kids.length = 0 := by
            by_cases h6 : 0 < kids.length
            · exact absurd ⟨rfl, h6⟩ HM0.out
            · omega
          have hki : ¬ (0 : Int) < kids.length := by omega
          obtain rfl : kids = [] := List.eq_nil_of_length_eq_zero hk0
          clear hk0
          go_wp2_with fail
          refine wp_loop_rounds 1 ?_
          rw [rounds_succ]
          go_wp2_with fail
          go_ret
          exact ⟨by rw [HW3.out]; rfl, HB1.out⟩
        · have hmi : ¬ (most : Int) = 0 := by omega
          have hmb : ((most : Int) == 0) = false := by rw [beq_eq_false_iff_ne]; exact hmi
          go_wp2_with fail
          go_loopw [23] (fun i wr => ∃ j : Nat, i = .int .i64 j ∧ j ≤ kids.length ∧ Hid (Below w.heap.size w wr ∧ (kids.take j).all (fun d => withinN d (most - 1)) = true))
            (fun i _ => kids.length - (intOf i).toNat)
          case atStart => exact ⟨0, rfl, Nat.zero_le _, HB1.out, rfl⟩
          case round =>
            obtain ⟨j, rfl, hj, hrow⟩ := hrel
            by_cases hlt : j < kids.length
            · have hji : (j : Int) < kids.length := by omega
              obtain ⟨d, hd⟩ : ∃ d, kids[j]? = some d := ⟨_, List.getElem?_eq_getElem hlt⟩
              obtain ⟨u, hu⟩ : ∃ u, vs[j]? = some u := ⟨_, List.getElem?_eq_getElem (by omega)⟩
              have hne : kids ≠ [] := fun e => by rw [e] at hlt; simp at hlt
              obtain ⟨b, o, rfl, hA, hce⟩ := HCE.out hne
              have hnc := hce j u hu
              have hbl := hnc.lt
              have hnc2 := hnc.keep (hrow.out.1.block b hbl)
              obtain ⟨c0, c1, c2, c3, c4, c5, c6, c7, rfl, q0, q1, q2, q3, q4, q5, q6, q7⟩ := hnc2
              have hN1 := HKI.out j _ d hu hd
              have hN2 := hN1.later hrow.out.1
              obtain ⟨z, y0, y1, y2, y3, sa, sn, sc, lo, hi, hsh⟩ := hN1.shapeI
              injection hsh with hsh
              simp at hsh
              obtain ⟨rfl, rfl, rfl, rfl, rfl, rfl, rfl, rfl⟩ := hsh
              have HN2 := hidden hN2
              have hcd := HCN.out j d hd
              have hcd2 : cntN d ≤ N := by omega
              have HCD := hidden hcd2
              have HD := hidden hd
              have hblr : b < wr.heap.size := Nat.lt_of_lt_of_le hbl hrow.out.1.size
              have hm1 : (most : Int) - 1 = ((most - 1 : Nat) : Int) := by omega
              have HM1 := hidden hm1
              have hwr := hrow.out.1.size
              clear hN1 hN2 hce hnc hu hd hA hcd hcd2 hm1
              go_wp2_with fail
              rw [HM1.out]
              refine (HIH.out d HCD.out (by omega) (most - 1) _ _ A (by omega) (by (with_reducible (repeat (first | exact HN2.out | apply NodeAt.alloc | apply NodeAt.putN | apply NodeAt.other | apply NodeAt.putO | apply NodeAt.otherO | apply NodeAt.drewN | apply NodeAt.drew | omega))))).mono ?_
              rintro e w2 ⟨rfl, hb2⟩
              have HB2 := hidden (show Below w.heap.size w w2 from (by (with_reducible (repeat (first | exact hrow.out.1 | apply bel_alloc | apply bel_put | apply bel_set | apply Below.drew | apply below_drewN | omega))) : Below w.heap.size w _).trans (hb2.mono (by have := hrow.out.1.size; simp; omega)))
              clear hb2
              cases hr : withinN d (most - 1) with
              | false =>
                have HF := hidden (show withinN (.mk k f kids _ _) most = false from HW3.out.trans (all_false HD.out hr))
                clear hr
                go_wp2_with fail
                go_ret
                exact ⟨by rw [HF.out]; rfl, HB2.out⟩
              | true =>
                have HF := hidden (show (kids.take (j + 1)).all (fun d => withinN d (most - 1)) = true by rw [all_take HD.out, hrow.out.2, hr]; rfl)
                clear hr
                go_wp2_with fail
                go_roundw
                case rel => exact ⟨j + 1, by go_num, by omega, HB2.out, HF.out⟩
                case measure => simp [intOf]; omega
            · have hji : ¬ (j : Int) < kids.length := by omega
              have HF := hidden (show withinN (.mk k f kids lo hi) most = true by
                rw [HW3.out]
                have := hrow.out.2
                rw [List.take_of_length_le (by omega)] at this
                exact this)
              go_wp2_with fail
              go_ret
              exact ⟨by rw [HF.out]; rfl, hrow.out.1⟩

end Go.Proofs.Ytjlihidmohokhaa
