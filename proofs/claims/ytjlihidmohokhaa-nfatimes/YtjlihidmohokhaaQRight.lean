/-
  What the document's own rightNode answers of a node that lies in memory; conditions: how many parts it has, and how many may be within one another.
-/
import Derived.Test.YtjlihidmohokhaaKBase
import Derived.Deep.Cut
import Derived.Deep.CutRange
namespace Go.Proofs.Ytjlihidmohokhaa
open Go.RowKit Go.Proofs.Ytjlihidmohokhaa.Gl

/-- may a node be, with so many within one another, itself too -/
def rqN (x : Nd) (most : Nat) : Bool := match most with | 0 => false | m + 1 => withinN x m
theorem rqN_is (k : Int) (f : Bs) (kids : List Nd) (lo hi : Int) (m : Nat) : rqN (.mk k f kids lo hi) (m + 1) = (aloneN k f kids.length lo hi && kids.all (fun d => rqN d m)) := by
  show withinN (.mk k f kids lo hi) m = _
  rw [withinN_is]
  cases m with
  | zero =>
    cases kids with
    | nil => simp
    | cons a l => simp [rqN]
  | succ m =>
    rw [show (m + 1 == 0) = false from rfl]
    simp [rqN]
/-- the first test of a node -/
def headB (k : Int) (s : Bool) (lo hi : Int) : Bool := decide (k < 1) || decide (7 < k) || (k != 2 && !s) || (k != 5 && (lo != 0 || hi != 0))
theorem head_alone {k : Int} {f : Bs} {n : Nat} {lo hi : Int} (h : headB k (noSet f) lo hi = true) : aloneN k f n lo hi = false := by
  unfold headB at h
  unfold aloneN
  by_cases k1 : k = 1 ∨ k = 6 ∨ k = 7
  · rw [if_pos k1]
    rcases k1 with rfl | rfl | rfl <;> (simp [noTimes] at h ⊢; intro _ h2; rw [h2] at h; simp at h; omega)
  rw [if_neg k1]
  by_cases k2 : k = 2
  · subst k2; rw [if_pos rfl]; simp [noTimes] at h ⊢; intro _; omega
  rw [if_neg k2]
  by_cases k3 : k = 3 ∨ k = 4
  · rw [if_pos k3]
    rcases k3 with rfl | rfl <;> (simp [noTimes] at h ⊢; intro _ h2; rw [h2] at h; simp at h; omega)
  rw [if_neg k3]
  by_cases k5 : k = 5
  · subst k5; rw [if_pos rfl]; simp at h ⊢; intro _ h2; rw [h2] at h; simp at h
  rw [if_neg k5]
theorem head_no {k : Int} {s : Bool} {lo hi : Int} (h : headB k s lo hi = false) : (k = 1 ∨ k = 2 ∨ k = 3 ∨ k = 4 ∨ k = 5 ∨ k = 6 ∨ k = 7) ∧ (k = 2 ∨ s = true) ∧ (k = 5 ∨ lo = 0 ∧ hi = 0) := by
  unfold headB at h
  simp at h
  obtain ⟨⟨⟨h1, h2⟩, h3⟩, h4⟩ := h
  refine ⟨by omega, ?_, ?_⟩
  · by_cases e : k = 2
    · exact Or.inl e
    · exact Or.inr (h3 e)
  · by_cases e : k = 5
    · exact Or.inl e
    · exact Or.inr (h4 e)
/-- the test of times -/
def badTimes (n : Nat) (lo hi : Int) : Bool := n != 1 || decide (lo < 0) || decide (200 < lo) || decide (200 < hi) || (decide (hi < 0) && hi != -1) || (decide (0 ≤ hi) && decide (hi < lo))
theorem badTimes_is (n : Nat) (lo hi : Int) : badTimes n lo hi = !(n == 1 && okTimes lo hi) := by
  unfold badTimes okTimes
  rw [Bool.eq_iff_iff]
  simp
  omega

set_option maxRecDepth 4000 in
set_option maxHeartbeats 8000000 in
theorem rightNode_any : ∀ (N : Nat) (x : Nd), cntN x ≤ N → N ≤ 1048576 → ∀ (most : Nat) (dp : Int) (v : Value) (w : World) (A : Nat → Prop), most ≤ 1048576 → dp = (most : Int) - 1 → NodeAt w A v x →
    Calls Try.prog 29 #[v, .int .i64 dp] w fun e w' => e = .returned (.bool (rqN x most)) ∧ Below w.heap.size w w' := by
  intro N
  induction N with
  | zero => intro x hx; have := cntN_pos x; omega
  | succ N ih =>
    intro x hx hN most dp v w A hmost hdp hnode
    obtain ⟨k, f, kids, lo, hi⟩ := x
    obtain ⟨kv, rfl, hkids0⟩ := hnode.open
    obtain ⟨a, cap, vs, rfl, hvl, hcap, hcells, hkids⟩ := hkids0
    rw [cntN] at hx
    have hlen := cnts_len kids
    have HIH := hidden ih
    have HKI := hidden hkids
    have HCE := hidden hcells
    have HCN := hidden (cnts_at kids)
    have hxb : kids.length ≤ 1048576 := by omega
    have hcn : cnts kids ≤ N := by omega
    have HB0 := hidden (Below.refl w.heap.size w)
    have HQ := fun W => eqArr (word f 0) (word f 1) (word f 2) (word f 3) W
    rw [noSet_is] at HQ
    obtain ⟨s, hs⟩ : ∃ s, s = noSet f := ⟨_, rfl⟩
    rw [← hs] at HQ
    have HS := hidden hs
    clear ih hkids hcells hnode hx hlen hs
    have HC0 := hidden (Blk.new w (.int .i64 k) (.int .u64 (word f 0)) (.int .u64 (word f 1)) (.int .u64 (word f 2)) (.int .u64 (word f 3)) (.slice a kids.length cap) (.int .i64 lo) (.int .i64 hi))
    unfold nodeV
    cases most with
    | zero =>
      have hneg : dp < 0 := by omega
      have HF := hidden (show rqN (.mk k f kids lo hi) 0 = false from rfl)
      clear hdp
      go_enter Try.func29, Try.ntmps29
      go_wp2_with fail
      go_ret
      exact ⟨by rw [HF.out]; rfl, by (with_reducible (repeat (first | exact HB0.out | apply bel_alloc | apply bel_put | apply bel_set | apply Below.drew | apply below_drewN | omega)))⟩
    | succ m =>
    have hneg : ¬ dp < 0 := by omega
    have hdpi : dp - 1 = (m : Int) - 1 := by omega
    have HDP := hidden hdpi
    have hdw : IntKind.i64.wrap (dp - 1) = dp - 1 := by rw [IntKind.wrap_i64]; omega
    have HW := hidden (rqN_is k f kids lo hi m)
    have hdb1 : -1 ≤ dp := by omega
    have hdb2 : dp ≤ 1048576 := by omega
    clear hdp hdpi
    go_enter Try.func29, Try.ntmps29
    go_upto_region 1 with fail
    generalize hW1 : World.alloc _ _ = W1
    have HB1 := hidden (show Below w.heap.size w W1 by rw [← hW1]; (with_reducible (repeat (first | exact HB0.out | apply bel_alloc | apply bel_put | apply bel_set | apply Below.drew | apply below_drewN | omega))))
    have HC1 := hidden (show Blk W1 w.heap.size (.int .i64 k) (.int .u64 (word f 0)) (.int .u64 (word f 1)) (.int .u64 (word f 2)) (.int .u64 (word f 3)) (.slice a kids.length cap) (.int .i64 lo) (.int .i64 hi) by rw [← hW1]; (with_reducible (repeat (first | exact HC0.out | exact Blk.newAt (by simp) | apply Blk.alloc | apply Blk.put | apply Blk.putOther | apply Blk.other | apply Blk.drewN | apply Blk.drew | omega))))
    clear hW1
    obtain ⟨c0, c1, c2, c3, c4, c5, c6, c7⟩ := HC1.out.cells
    have hcl := HC1.out.lt
    go_cut [0, 43] from 6 to 43 (fun _ t wx => t = .bool (headB k s lo hi) ∧ wx = W1)
    case first =>
      go_wp2_with fail
      all_goals
        go_meet
        case rel => exact ⟨by first | rfl | (congr 1; unfold headB; simp [*]; done) | (congr 1; unfold headB; rw [Bool.eq_iff_iff]; simp [*]; omega) | (congr 1; unfold headB; rw [Bool.eq_iff_iff]; simp; omega) | (congr 1; unfold headB; simp_all; done) | (congr 1; unfold headB; rw [Bool.eq_iff_iff]; simp_all; omega), rfl⟩
    obtain ⟨rfl, hwc⟩ := hcut
    rw [hwc]
    clear hwc
    cases hh : headB k s lo hi with
    | true =>
      have HF := hidden (show rqN (.mk k f kids lo hi) (m + 1) = false by rw [HW.out, head_alone (by rw [← HS.out]; exact hh)]; rfl)
      clear hh
      go_wp2_with fail
      go_ret
      exact ⟨by rw [HF.out]; rfl, HB1.out⟩
    | false =>
    obtain ⟨hks, hss, htt⟩ := head_no hh
    have HSS := hidden hss
    clear hh HQ hss
    rcases hks with rfl | rfl | rfl | rfl | rfl | rfl | rfl
    · skip
      obtain ⟨rfl, rfl⟩ : lo = 0 ∧ hi = 0 := by rcases htt with h | h; (· omega); exact h
      by_cases hn0 : kids.length = 0
      · have HW2 := hidden (show rqN (.mk 1 f kids 0 0) (m + 1) = true by
          rw [HW.out]
          obtain rfl : kids = [] := List.eq_nil_of_length_eq_zero hn0
          have hs2 : noSet f = true := by rw [← HS.out]; rcases HSS.out with h | h; (· omega); exact h
          simp [aloneN, noTimes, hs2])
        have hni : ¬ (0 : Int) < kids.length := by omega
        have hnz : (kids.length : Int) = 0 := by omega
        clear hn0 htt
        go_wp2_with fail
        refine wp_loop_rounds 1 ?_
        rw [rounds_succ]
        go_wp2_with fail
        go_ret
        exact ⟨by rw [HW2.out]; rfl, HB1.out⟩
      · have HF := hidden (show rqN (.mk 1 f kids 0 0) (m + 1) = false by rw [HW.out]; simp [aloneN, hn0])
        have hni : (0 : Int) < kids.length := by omega
        clear hn0 htt
        go_wp2_with fail
        go_ret
        exact ⟨by rw [HF.out]; rfl, HB1.out⟩
    · skip
      obtain ⟨rfl, rfl⟩ : lo = 0 ∧ hi = 0 := by rcases htt with h | h; (· omega); exact h
      by_cases hn0 : kids.length = 0
      · have HW2 := hidden (show rqN (.mk 2 f kids 0 0) (m + 1) = true by
          rw [HW.out]
          obtain rfl : kids = [] := List.eq_nil_of_length_eq_zero hn0
          skip
          simp [aloneN, noTimes])
        have hni : ¬ (0 : Int) < kids.length := by omega
        have hnz : (kids.length : Int) = 0 := by omega
        clear hn0 htt
        go_wp2_with fail
        refine wp_loop_rounds 1 ?_
        rw [rounds_succ]
        go_wp2_with fail
        go_ret
        exact ⟨by rw [HW2.out]; rfl, HB1.out⟩
      · have HF := hidden (show rqN (.mk 2 f kids 0 0) (m + 1) = false by rw [HW.out]; simp [aloneN, hn0])
        have hni : (0 : Int) < kids.length := by omega
        clear hn0 htt
        go_wp2_with fail
        go_ret
        exact ⟨by rw [HF.out]; rfl, HB1.out⟩
    · skip
      obtain ⟨rfl, rfl⟩ : lo = 0 ∧ hi = 0 := by rcases htt with h | h; (· omega); exact h
      by_cases hn2 : 2 ≤ kids.length
      · have HW2 := hidden (show rqN (.mk 3 f kids 0 0) (m + 1) = kids.all (fun d => rqN d m) by
          rw [HW.out]
          have hs2 : noSet f = true := by rw [← HS.out]; rcases HSS.out with h | h; (· omega); exact h
          simp [aloneN, noTimes, hs2, hn2])
        have hni : ¬ (kids.length : Int) < 2 := by omega
        clear hn2 htt
        go_wp2_with fail
        go_loopw [5] (fun i wr => ∃ j : Nat, i = .int .i64 j ∧ j ≤ kids.length ∧ Hid (Below w.heap.size w wr ∧ Blk wr w.heap.size (.int .i64 3) (.int .u64 (word f 0)) (.int .u64 (word f 1)) (.int .u64 (word f 2)) (.int .u64 (word f 3)) (.slice a kids.length cap) (.int .i64 0) (.int .i64 0) ∧ (kids.take j).all (fun d => rqN d m) = true))
          (fun i _ => kids.length - (intOf i).toNat)
        case atStart => exact ⟨0, rfl, Nat.zero_le _, HB1.out, HC1.out, rfl⟩
        case round =>
          obtain ⟨j, rfl, hj, hrow⟩ := hrel
          clear c0 c1 c2 c3 c4 c5 c6 c7
          obtain ⟨e0, e1, e2, e3, e4, e5, e6, e7⟩ := hrow.out.2.1.cells
          have hel := hrow.out.2.1.lt
          by_cases hlt : j < kids.length
          · have hji : (j : Int) < kids.length := by omega
            obtain ⟨d, hd⟩ : ∃ d, kids[j]? = some d := ⟨_, List.getElem?_eq_getElem hlt⟩
            obtain ⟨u, hu⟩ : ∃ u, vs[j]? = some u := ⟨_, List.getElem?_eq_getElem (by omega)⟩
            have hne : kids ≠ [] := fun e => by rw [e] at hlt; simp at hlt
            obtain ⟨b, o, rfl, hA, hce⟩ := HCE.out hne
            have hnc := hce j u hu
            have hbl := hnc.lt
            have hnc2 := hnc.keep (hrow.out.1.block b hbl)
            obtain ⟨c0, c1, c2, c3, c4, c5, c6, c7, rfl, q0, q1, q2, q3, q4, q5, q6, q7⟩ := hnc2
            have hN1 := HKI.out j _ d hu hd
            have hN2 := hN1.later hrow.out.1
            obtain ⟨z, y0, y1, y2, y3, sa, sn, sc, lo2, hi2, hsh⟩ := hN1.shapeI
            injection hsh with hsh
            simp at hsh
            obtain ⟨rfl, rfl, rfl, rfl, rfl, rfl, rfl, rfl⟩ := hsh
            have HN2 := hidden hN2
            have hcd := HCN.out j d hd
            have hcd2 : cntN d ≤ N := by omega
            have HCD := hidden hcd2
            have HD := hidden hd
            have hblr : b < wr.heap.size := Nat.lt_of_lt_of_le hbl hrow.out.1.size
            clear hN1 hN2 hce hnc hu hd hA hcd hcd2 hne
            go_wp2_with fail
            refine (HIH.out d HCD.out (by omega) m _ _ _ A (by omega) HDP.out (by (with_reducible (repeat (first | exact HN2.out | apply NodeAt.alloc | apply NodeAt.putN | apply NodeAt.other | apply NodeAt.putO | apply NodeAt.otherO | apply NodeAt.drewN | apply NodeAt.drew | omega))))).mono ?_
            rintro e w2 ⟨rfl, hb2⟩
            have HB2 := hidden (show Below w.heap.size w w2 from (by (with_reducible (repeat (first | exact hrow.out.1 | apply bel_alloc | apply bel_put | apply bel_set | apply Below.drew | apply below_drewN | omega))) : Below w.heap.size w _).trans (hb2.mono (by have := hrow.out.1.size; simp; omega)))
            have HC2 := hidden (Blk.later hrow.out.2.1 hb2)
            clear hb2
            cases hr : rqN d m with
            | false =>
              have HF := hidden (HW2.out.trans (all_false (P := fun d => rqN d m) HD.out hr))
              clear hr
              go_wp2_with fail
              go_ret
              exact ⟨by rw [HF.out]; rfl, HB2.out⟩
            | true =>
              have HF := hidden (show (kids.take (j + 1)).all (fun d => rqN d m) = true by rw [all_take HD.out, hrow.out.2.2, hr]; rfl)
              clear hr
              go_wp2_with fail
              go_roundw
              case rel => exact ⟨j + 1, by go_num, by omega, HB2.out, HC2.out, HF.out⟩
              case measure => simp [intOf]; omega
          · have hji : ¬ (j : Int) < kids.length := by omega
            have HF := hidden (HW2.out.trans (show kids.all (fun d => rqN d m) = true by
              have := hrow.out.2.2
              rw [List.take_of_length_le (by omega)] at this
              exact this))
            go_wp2_with fail
            go_ret
            exact ⟨by rw [HF.out]; rfl, hrow.out.1⟩
      · have HF := hidden (show rqN (.mk 3 f kids 0 0) (m + 1) = false by rw [HW.out]; simp [aloneN, hn2])
        have hni : (kids.length : Int) < 2 := by omega
        clear hn2 htt
        go_wp2_with fail
        go_ret
        exact ⟨by rw [HF.out]; rfl, HB1.out⟩
    · skip
      obtain ⟨rfl, rfl⟩ : lo = 0 ∧ hi = 0 := by rcases htt with h | h; (· omega); exact h
      by_cases hn2 : 2 ≤ kids.length
      · have HW2 := hidden (show rqN (.mk 4 f kids 0 0) (m + 1) = kids.all (fun d => rqN d m) by
          rw [HW.out]
          have hs2 : noSet f = true := by rw [← HS.out]; rcases HSS.out with h | h; (· omega); exact h
          simp [aloneN, noTimes, hs2, hn2])
        have hni : ¬ (kids.length : Int) < 2 := by omega
        clear hn2 htt
        go_wp2_with fail
        go_loopw [5] (fun i wr => ∃ j : Nat, i = .int .i64 j ∧ j ≤ kids.length ∧ Hid (Below w.heap.size w wr ∧ Blk wr w.heap.size (.int .i64 4) (.int .u64 (word f 0)) (.int .u64 (word f 1)) (.int .u64 (word f 2)) (.int .u64 (word f 3)) (.slice a kids.length cap) (.int .i64 0) (.int .i64 0) ∧ (kids.take j).all (fun d => rqN d m) = true))
          (fun i _ => kids.length - (intOf i).toNat)
        case atStart => exact ⟨0, rfl, Nat.zero_le _, HB1.out, HC1.out, rfl⟩
        case round =>
          obtain ⟨j, rfl, hj, hrow⟩ := hrel
          clear c0 c1 c2 c3 c4 c5 c6 c7
          obtain ⟨e0, e1, e2, e3, e4, e5, e6, e7⟩ := hrow.out.2.1.cells
          have hel := hrow.out.2.1.lt
          by_cases hlt : j < kids.length
          · have hji : (j : Int) < kids.length := by omega
            obtain ⟨d, hd⟩ : ∃ d, kids[j]? = some d := ⟨_, List.getElem?_eq_getElem hlt⟩
            obtain ⟨u, hu⟩ : ∃ u, vs[j]? = some u := ⟨_, List.getElem?_eq_getElem (by omega)⟩
            have hne : kids ≠ [] := fun e => by rw [e] at hlt; simp at hlt
            obtain ⟨b, o, rfl, hA, hce⟩ := HCE.out hne
            have hnc := hce j u hu
            have hbl := hnc.lt
            have hnc2 := hnc.keep (hrow.out.1.block b hbl)
            obtain ⟨c0, c1, c2, c3, c4, c5, c6, c7, rfl, q0, q1, q2, q3, q4, q5, q6, q7⟩ := hnc2
            have hN1 := HKI.out j _ d hu hd
            have hN2 := hN1.later hrow.out.1
            obtain ⟨z, y0, y1, y2, y3, sa, sn, sc, lo2, hi2, hsh⟩ := hN1.shapeI
            injection hsh with hsh
            simp at hsh
            obtain ⟨rfl, rfl, rfl, rfl, rfl, rfl, rfl, rfl⟩ := hsh
            have HN2 := hidden hN2
            have hcd := HCN.out j d hd
            have hcd2 : cntN d ≤ N := by omega
            have HCD := hidden hcd2
            have HD := hidden hd
            have hblr : b < wr.heap.size := Nat.lt_of_lt_of_le hbl hrow.out.1.size
            clear hN1 hN2 hce hnc hu hd hA hcd hcd2 hne
            go_wp2_with fail
            refine (HIH.out d HCD.out (by omega) m _ _ _ A (by omega) HDP.out (by (with_reducible (repeat (first | exact HN2.out | apply NodeAt.alloc | apply NodeAt.putN | apply NodeAt.other | apply NodeAt.putO | apply NodeAt.otherO | apply NodeAt.drewN | apply NodeAt.drew | omega))))).mono ?_
            rintro e w2 ⟨rfl, hb2⟩
            have HB2 := hidden (show Below w.heap.size w w2 from (by (with_reducible (repeat (first | exact hrow.out.1 | apply bel_alloc | apply bel_put | apply bel_set | apply Below.drew | apply below_drewN | omega))) : Below w.heap.size w _).trans (hb2.mono (by have := hrow.out.1.size; simp; omega)))
            have HC2 := hidden (Blk.later hrow.out.2.1 hb2)
            clear hb2
            cases hr : rqN d m with
            | false =>
              have HF := hidden (HW2.out.trans (all_false (P := fun d => rqN d m) HD.out hr))
              clear hr
              go_wp2_with fail
              go_ret
              exact ⟨by rw [HF.out]; rfl, HB2.out⟩
            | true =>
              have HF := hidden (show (kids.take (j + 1)).all (fun d => rqN d m) = true by rw [all_take HD.out, hrow.out.2.2, hr]; rfl)
              clear hr
              go_wp2_with fail
              go_roundw
              case rel => exact ⟨j + 1, by go_num, by omega, HB2.out, HC2.out, HF.out⟩
              case measure => simp [intOf]; omega
          · have hji : ¬ (j : Int) < kids.length := by omega
            have HF := hidden (HW2.out.trans (show kids.all (fun d => rqN d m) = true by
              have := hrow.out.2.2
              rw [List.take_of_length_le (by omega)] at this
              exact this))
            go_wp2_with fail
            go_ret
            exact ⟨by rw [HF.out]; rfl, hrow.out.1⟩
      · have HF := hidden (show rqN (.mk 4 f kids 0 0) (m + 1) = false by rw [HW.out]; simp [aloneN, hn2])
        have hni : (kids.length : Int) < 2 := by omega
        clear hn2 htt
        go_wp2_with fail
        go_ret
        exact ⟨by rw [HF.out]; rfl, HB1.out⟩
    · skip
      have hs2 : noSet f = true := by rw [← HS.out]; rcases HSS.out with h | h; (· omega); exact h
      have HAL := hidden (show aloneN 5 f kids.length lo hi = !(badTimes kids.length lo hi) by rw [badTimes_is]; simp [aloneN, hs2])
      have hlb : (kids.length : Int) = ((kids.length : Nat) : Int) := rfl
      clear htt hs2 hlb
      obtain ⟨n9, hn9⟩ : ∃ n, n = kids.length := ⟨_, rfl⟩
      have hn9i : (kids.length : Int) = n9 := by omega
      go_upto_region 11 with fail
      go_cut [0, 99] from 59 to 99 (fun _ t wx => t = .bool (badTimes n9 lo hi) ∧ wx = W1)
      case first =>
        rw [← hn9] at c5
        clear hn9i hn9
        by_cases h1 : n9 = 1
        · subst h1
          go_wp2_with fail
          all_goals
            go_meet
            case rel => exact ⟨by first | rfl | (congr 1; unfold badTimes; simp [*]; done) | (congr 1; unfold badTimes; rw [Bool.eq_iff_iff]; simp [*]; omega), rfl⟩
        · have h1b : ((n9 : Int) != 1) = true := by rw [bne_iff_ne]; omega
          go_wp2_with fail
          all_goals
            go_meet
            case rel => exact ⟨by first | rfl | (congr 1; unfold badTimes; simp [*]; done) | (congr 1; unfold badTimes; rw [Bool.eq_iff_iff]; simp [*]; omega), rfl⟩
      obtain ⟨rfl, hwc⟩ := hcut
      rw [hwc, hn9]
      clear hwc hn9i hn9
      cases hh : badTimes kids.length lo hi with
      | true =>
        have HF := hidden (show rqN (.mk 5 f kids lo hi) (m + 1) = false by rw [HW.out, HAL.out, hh]; rfl)
        clear hh
        go_wp2_with fail
        go_ret
        exact ⟨by rw [HF.out]; rfl, HB1.out⟩
      | false =>
        have HW2 := hidden (show rqN (.mk 5 f kids lo hi) (m + 1) = kids.all (fun d => rqN d m) by rw [HW.out, HAL.out, hh]; simp)
        clear hh
        go_wp2_with fail
        go_loopw [5] (fun i wr => ∃ j : Nat, i = .int .i64 j ∧ j ≤ kids.length ∧ Hid (Below w.heap.size w wr ∧ Blk wr w.heap.size (.int .i64 5) (.int .u64 (word f 0)) (.int .u64 (word f 1)) (.int .u64 (word f 2)) (.int .u64 (word f 3)) (.slice a kids.length cap) (.int .i64 lo) (.int .i64 hi) ∧ (kids.take j).all (fun d => rqN d m) = true))
          (fun i _ => kids.length - (intOf i).toNat)
        case atStart => exact ⟨0, rfl, Nat.zero_le _, HB1.out, HC1.out, rfl⟩
        case round =>
          obtain ⟨j, rfl, hj, hrow⟩ := hrel
          clear c0 c1 c2 c3 c4 c5 c6 c7
          obtain ⟨e0, e1, e2, e3, e4, e5, e6, e7⟩ := hrow.out.2.1.cells
          have hel := hrow.out.2.1.lt
          by_cases hlt : j < kids.length
          · have hji : (j : Int) < kids.length := by omega
            obtain ⟨d, hd⟩ : ∃ d, kids[j]? = some d := ⟨_, List.getElem?_eq_getElem hlt⟩
            obtain ⟨u, hu⟩ : ∃ u, vs[j]? = some u := ⟨_, List.getElem?_eq_getElem (by omega)⟩
            have hne : kids ≠ [] := fun e => by rw [e] at hlt; simp at hlt
            obtain ⟨b, o, rfl, hA, hce⟩ := HCE.out hne
            have hnc := hce j u hu
            have hbl := hnc.lt
            have hnc2 := hnc.keep (hrow.out.1.block b hbl)
            obtain ⟨c0, c1, c2, c3, c4, c5, c6, c7, rfl, q0, q1, q2, q3, q4, q5, q6, q7⟩ := hnc2
            have hN1 := HKI.out j _ d hu hd
            have hN2 := hN1.later hrow.out.1
            obtain ⟨z, y0, y1, y2, y3, sa, sn, sc, lo2, hi2, hsh⟩ := hN1.shapeI
            injection hsh with hsh
            simp at hsh
            obtain ⟨rfl, rfl, rfl, rfl, rfl, rfl, rfl, rfl⟩ := hsh
            have HN2 := hidden hN2
            have hcd := HCN.out j d hd
            have hcd2 : cntN d ≤ N := by omega
            have HCD := hidden hcd2
            have HD := hidden hd
            have hblr : b < wr.heap.size := Nat.lt_of_lt_of_le hbl hrow.out.1.size
            clear hN1 hN2 hce hnc hu hd hA hcd hcd2 hne
            go_wp2_with fail
            refine (HIH.out d HCD.out (by omega) m _ _ _ A (by omega) HDP.out (by (with_reducible (repeat (first | exact HN2.out | apply NodeAt.alloc | apply NodeAt.putN | apply NodeAt.other | apply NodeAt.putO | apply NodeAt.otherO | apply NodeAt.drewN | apply NodeAt.drew | omega))))).mono ?_
            rintro e w2 ⟨rfl, hb2⟩
            have HB2 := hidden (show Below w.heap.size w w2 from (by (with_reducible (repeat (first | exact hrow.out.1 | apply bel_alloc | apply bel_put | apply bel_set | apply Below.drew | apply below_drewN | omega))) : Below w.heap.size w _).trans (hb2.mono (by have := hrow.out.1.size; simp; omega)))
            have HC2 := hidden (Blk.later hrow.out.2.1 hb2)
            clear hb2
            cases hr : rqN d m with
            | false =>
              have HF := hidden (HW2.out.trans (all_false (P := fun d => rqN d m) HD.out hr))
              clear hr
              go_wp2_with fail
              go_ret
              exact ⟨by rw [HF.out]; rfl, HB2.out⟩
            | true =>
              have HF := hidden (show (kids.take (j + 1)).all (fun d => rqN d m) = true by rw [all_take HD.out, hrow.out.2.2, hr]; rfl)
              clear hr
              go_wp2_with fail
              go_roundw
              case rel => exact ⟨j + 1, by go_num, by omega, HB2.out, HC2.out, HF.out⟩
              case measure => simp [intOf]; omega
          · have hji : ¬ (j : Int) < kids.length := by omega
            have HF := hidden (HW2.out.trans (show kids.all (fun d => rqN d m) = true by
              have := hrow.out.2.2
              rw [List.take_of_length_le (by omega)] at this
              exact this))
            go_wp2_with fail
            go_ret
            exact ⟨by rw [HF.out]; rfl, hrow.out.1⟩
    · skip
      obtain ⟨rfl, rfl⟩ : lo = 0 ∧ hi = 0 := by rcases htt with h | h; (· omega); exact h
      by_cases hn0 : kids.length = 0
      · have HW2 := hidden (show rqN (.mk 6 f kids 0 0) (m + 1) = true by
          rw [HW.out]
          obtain rfl : kids = [] := List.eq_nil_of_length_eq_zero hn0
          have hs2 : noSet f = true := by rw [← HS.out]; rcases HSS.out with h | h; (· omega); exact h
          simp [aloneN, noTimes, hs2])
        have hni : ¬ (0 : Int) < kids.length := by omega
        have hnz : (kids.length : Int) = 0 := by omega
        clear hn0 htt
        go_wp2_with fail
        refine wp_loop_rounds 1 ?_
        rw [rounds_succ]
        go_wp2_with fail
        go_ret
        exact ⟨by rw [HW2.out]; rfl, HB1.out⟩
      · have HF := hidden (show rqN (.mk 6 f kids 0 0) (m + 1) = false by rw [HW.out]; simp [aloneN, hn0])
        have hni : (0 : Int) < kids.length := by omega
        clear hn0 htt
        go_wp2_with fail
        go_ret
        exact ⟨by rw [HF.out]; rfl, HB1.out⟩
    · skip
      obtain ⟨rfl, rfl⟩ : lo = 0 ∧ hi = 0 := by rcases htt with h | h; (· omega); exact h
      by_cases hn0 : kids.length = 0
      · have HW2 := hidden (show rqN (.mk 7 f kids 0 0) (m + 1) = true by
          rw [HW.out]
          obtain rfl : kids = [] := List.eq_nil_of_length_eq_zero hn0
          have hs2 : noSet f = true := by rw [← HS.out]; rcases HSS.out with h | h; (· omega); exact h
          simp [aloneN, noTimes, hs2])
        have hni : ¬ (0 : Int) < kids.length := by omega
        have hnz : (kids.length : Int) = 0 := by omega
        clear hn0 htt
        go_wp2_with fail
        refine wp_loop_rounds 1 ?_
        rw [rounds_succ]
        go_wp2_with fail
        go_ret
        exact ⟨by rw [HW2.out]; rfl, HB1.out⟩
      · have HF := hidden (show rqN (.mk 7 f kids 0 0) (m + 1) = false by rw [HW.out]; simp [aloneN, hn0])
        have hni : (0 : Int) < kids.length := by omega
        clear hn0 htt
        go_wp2_with fail
        go_ret
        exact ⟨by rw [HF.out]; rfl, HB1.out⟩

end Go.Proofs.Ytjlihidmohokhaa
