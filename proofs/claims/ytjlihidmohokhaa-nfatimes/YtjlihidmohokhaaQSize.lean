/-
  What the document's own size, Size and RightNode answer of a node that lies in memory; conditions: how many parts it has, and that it may be.
-/
import Derived.Test.YtjlihidmohokhaaQRight
namespace Go.Proofs.Ytjlihidmohokhaa
open Go.RowKit Go.Proofs.Ytjlihidmohokhaa.Gl

theorem sizes_take {l : List Nd} {j : Nat} {d : Nd} (h : l[j]? = some d) : sizes (l.take (j + 1)) = sizes (l.take j) + sizeN d := by
  obtain ⟨hj, rfl⟩ := List.getElem?_eq_some_iff.1 h
  rw [List.take_succ_eq_append_getElem hj]
  generalize l.take j = a
  generalize l[j] = b
  induction a with
  | nil => simp [sizes]
  | cons c a ih => rw [List.cons_append, sizes, sizes, ih]; omega
theorem sizes_le {l : List Nd} (j : Nat) : sizes (l.take j) ≤ sizes l := by
  induction l generalizing j with
  | nil => simp
  | cons a l ih =>
    cases j with
    | zero => simp [sizes]
    | succ j => rw [List.take_succ_cons, sizes, sizes]; have := ih j; omega
theorem sizes_at {l : List Nd} {j : Nat} {d : Nd} (h : l[j]? = some d) : sizes (l.take j) + sizeN d ≤ sizes l := by
  rw [← sizes_take h]; exact sizes_le _
/-- a part that is too great -/
theorem great_part {t y s T z : Nat} (hy : 1073741824 / t < min 1073741824 y) (ht : 1 ≤ t) (hz : T + y ≤ z) (hs : s = 1 + t * z) : 1073741824 < s := by
  have h1 : 1073741824 / t < y := by omega
  have h2 : 1073741824 < y * t := (Nat.div_lt_iff_lt_mul (by omega)).1 h1
  have h3 : t * y ≤ t * z := Nat.mul_le_mul_left t (by omega)
  rw [Nat.mul_comm] at h2
  omega
theorem small_part {t y : Nat} (hy : ¬ 1073741824 / t < min 1073741824 y) (ht : 1 ≤ t) : min 1073741824 y * t ≤ 1073741824 := by
  have h1 : min 1073741824 y ≤ 1073741824 / t := by omega
  exact (Nat.le_div_iff_mul_le (by omega)).1 h1
theorem alone_reps {k : Int} {f : Bs} {n : Nat} {lo hi : Int} (h : aloneN k f n lo hi = true) (hk : k = 5) : 0 ≤ lo ∧ lo ≤ 200 ∧ hi ≤ 200 ∧ -1 ≤ hi := by
  subst hk
  simp [aloneN, okTimes] at h
  omega

set_option maxHeartbeats 8000000 in
theorem qsize_any : ∀ (N : Nat) (x : Nd), cntN x ≤ N → N ≤ 1048576 → ∀ (most deep : Nat) (v : Value) (w : World) (A : Nat → Prop), rqN x most = true → deep + most ≤ 2001 → NodeAt w A v x →
    Calls Try.prog 20 #[v, .int .i64 deep] w fun e w' => e = .returned (.int .i64 (min 1073741824 (sizeN x) : Nat)) ∧ Below w.heap.size w w' := by
  intro N
  induction N with
  | zero => intro x hx; have := cntN_pos x; omega
  | succ N ih =>
    intro x hx hN most deep v w A hrq hdm hnode
    obtain ⟨k, f, kids, lo, hi⟩ := x
    obtain ⟨kv, rfl, hkids0⟩ := hnode.open
    obtain ⟨a, cap, vs, rfl, hvl, hcap, hcells, hkids⟩ := hkids0
    rw [cntN] at hx
    have hlen := cnts_len kids
    obtain ⟨m, rfl⟩ : ∃ m, most = m + 1 := by
      cases most with
      | zero => cases hrq
      | succ m => exact ⟨m, rfl⟩
    rw [rqN_is] at hrq
    simp only [Bool.and_eq_true] at hrq
    have HAL := hidden hrq.1
    have HALL := hidden (List.all_eq_true.1 hrq.2)
    have HIH := hidden ih
    have HKI := hidden hkids
    have HCE := hidden hcells
    have HCN := hidden (cnts_at kids)
    have hxb : kids.length ≤ 1048576 := by omega
    have hcn : cnts kids ≤ N := by omega
    have HB0 := hidden (Below.refl w.heap.size w)
    have hde : ¬ (2000 : Int) < deep := by omega
    have HC0 := hidden (Blk.new w (.int .i64 k) (.int .u64 (word f 0)) (.int .u64 (word f 1)) (.int .u64 (word f 2)) (.int .u64 (word f 3)) (.slice a kids.length cap) (.int .i64 lo) (.int .i64 hi))
    clear ih hkids hcells hnode hx hlen hrq
    unfold nodeV
    by_cases hk5 : k = 5
    · subst hk5
      obtain ⟨b1, b2, b3, b4⟩ := alone_reps HAL.out rfl
      by_cases h1 : 1 < lo
      · obtain ⟨l9, rfl⟩ := Int.eq_ofNat_of_zero_le b1
        by_cases h2 : (l9 : Int) < hi
        · obtain ⟨t, rfl⟩ := Int.eq_ofNat_of_zero_le (show 0 ≤ hi by omega)
          have hT : reps 5 (l9 : Int) (t : Int) = t := by unfold reps; rw [if_pos rfl]; omega
          have ht1 : 1 ≤ t := by omega
          have ht2 : t ≤ 200 := by omega
          have HTOT := hidden (show sizeN (.mk 5 f kids (l9 : Int) (t : Int)) = 1 + t * sizes kids by rw [sizeN, hT])
          have ht0 : ¬ (t : Int) = 0 := by omega
          have ht0b : ((t : Int) == 0) = false := by rw [beq_eq_false_iff_ne]; exact ht0
          have hti : (1 : Int) ≤ t := by omega
          obtain ⟨qq, hqq⟩ : ∃ qq, qq = 1073741824 / t := ⟨_, rfl⟩
          have hqd : Int.tdiv 1073741824 (t : Int) = (qq : Int) := by rw [hqq]; rfl
          have hqb : qq ≤ 1073741824 := by rw [hqq]; exact Nat.div_le_self _ _
          have HQQ := hidden hqq
          clear hqq hT
          go_enter Try.func20, Try.ntmps20
          go_wp2_with fail
          go_loopw [5, 7] (fun ka i wr => ∃ s j : Nat, ka = .int .i64 s ∧ i = .int .i64 j ∧ j ≤ kids.length ∧ s ≤ 1073741824 ∧ Hid (Below w.heap.size w wr ∧ Blk wr w.heap.size (.int .i64 5) (.int .u64 (word f 0)) (.int .u64 (word f 1)) (.int .u64 (word f 2)) (.int .u64 (word f 3)) (.slice a kids.length cap) (.int .i64 (l9 : Int)) (.int .i64 (t : Int)) ∧ s = 1 + t * sizes (kids.take j)))
            (fun _ i _ => kids.length - (intOf i).toNat)
          case atStart => exact ⟨1, 0, rfl, rfl, Nat.zero_le _, by omega, by (with_reducible (repeat (first | exact HB0.out | apply bel_alloc | apply bel_put | apply bel_set | apply Below.drew | apply below_drewN | omega))), by (with_reducible (repeat (first | exact HC0.out | exact Blk.newAt (by simp) | apply Blk.alloc | apply Blk.put | apply Blk.putOther | apply Blk.other | apply Blk.drewN | apply Blk.drew | omega))), by simp [sizes]⟩
          case round =>
            obtain ⟨s, j, rfl, rfl, hj, hs30, hrow⟩ := hrel
            obtain ⟨e0, e1, e2, e3, e4, e5, e6, e7⟩ := hrow.out.2.1.cells
            have hel := hrow.out.2.1.lt
            by_cases hlt : j < kids.length
            · have hji : (j : Int) < kids.length := by omega
              obtain ⟨d, hd⟩ : ∃ d, kids[j]? = some d := ⟨_, List.getElem?_eq_getElem hlt⟩
              obtain ⟨u, hu⟩ : ∃ u, vs[j]? = some u := ⟨_, List.getElem?_eq_getElem (by omega)⟩
              have hne : kids ≠ [] := fun e => by rw [e] at hlt; simp at hlt
              obtain ⟨b, o, rfl, hA, hce⟩ := HCE.out hne
              have hnc := hce j u hu
              have hbl := hnc.lt
              have hnc2 := hnc.keep (hrow.out.1.block b hbl)
              obtain ⟨c0, c1, c2, c3, c4, c5, c6, c7, rfl, q0, q1, q2, q3, q4, q5, q6, q7⟩ := hnc2
              have hN1 := HKI.out j _ d hu hd
              have hN2 := hN1.later hrow.out.1
              obtain ⟨z, y0, y1, y2, y3, sa, sn, sc, lo2, hi2, hsh⟩ := hN1.shapeI
              injection hsh with hsh
              simp at hsh
              obtain ⟨rfl, rfl, rfl, rfl, rfl, rfl, rfl, rfl⟩ := hsh
              have HN2 := hidden hN2
              have hcd := HCN.out j d hd
              have hcd2 : cntN d ≤ N := by omega
              have HCD := hidden hcd2
              have HRQ := hidden (HALL.out d (List.mem_of_getElem? hd))
              have HSAT := hidden (sizes_at hd)
              have HSTK := hidden (sizes_take hd)
              have hblr : b < wr.heap.size := Nat.lt_of_lt_of_le hbl hrow.out.1.size
              clear hN1 hN2 hce hnc hu hd hA hcd hcd2 hne
              go_wp2_with fail
              refine (HIH.out d HCD.out (by omega) m (deep + 1) _ _ A HRQ.out (by omega) (by (with_reducible (repeat (first | exact HN2.out | apply NodeAt.alloc | apply NodeAt.putN | apply NodeAt.other | apply NodeAt.putO | apply NodeAt.otherO | apply NodeAt.drewN | apply NodeAt.drew | omega))))).mono ?_
              rintro e w2 ⟨rfl, hb2⟩
              have HB2 := hidden (show Below w.heap.size w w2 from (by (with_reducible (repeat (first | exact hrow.out.1 | apply bel_alloc | apply bel_put | apply bel_set | apply Below.drew | apply below_drewN | omega))) : Below w.heap.size w _).trans (hb2.mono (by have := hrow.out.1.size; simp; omega)))
              have HC2 := hidden (Blk.later hrow.out.2.1 hb2)
              obtain ⟨y, hy⟩ : ∃ y, y = min 1073741824 (sizeN d) := ⟨_, rfl⟩
              rw [← hy]
              have HY := hidden hy
              have hyb : y ≤ 1073741824 := by omega
              clear hb2 hy
              by_cases hgr : qq < y
              · have hgi : (qq : Int) < y := by omega
                have HF := hidden (show min 1073741824 (sizeN (.mk 5 f kids (l9 : Int) (t : Int))) = 1073741824 by
                  have := great_part (t := t) (y := sizeN d) (by rw [← HQQ.out, ← HY.out]; exact hgr) ht1 HSAT.out HTOT.out
                  omega)
                go_wp2_with fail
                go_ret
                exact ⟨by rw [HF.out]; rfl, HB2.out⟩
              · have hgi : ¬ (qq : Int) < y := by omega
                have hprod : y * t ≤ 1073741824 := by
                  have := small_part (t := t) (y := sizeN d) (by rw [← HQQ.out, ← HY.out]; exact hgr) ht1
                  rw [← HY.out] at this
                  exact this
                obtain ⟨pr, hpr⟩ : ∃ pr, pr = y * t := ⟨_, rfl⟩
                have hpri : (y : Int) * (t : Int) = (pr : Int) := by rw [hpr]; exact (Int.natCast_mul y t).symm
                have hprb : pr ≤ 1073741824 := by omega
                have HPR := hidden hpr
                clear hprod hpr
                by_cases hov : 1073741824 < s + pr
                · have hoi : (1073741824 : Int) < (s : Int) + pr := by omega
                  have HF := hidden (show min 1073741824 (sizeN (.mk 5 f kids (l9 : Int) (t : Int))) = 1073741824 by
                    have h1 := HTOT.out
                    have h2 := HSAT.out
                    have h3 := hrow.out.2.2
                    have h4 := HPR.out
                    have h5 : t * (sizes (kids.take j) + sizeN d) ≤ t * sizes kids := Nat.mul_le_mul_left t h2
                    have h6 : y ≤ sizeN d := by have := HY.out; omega
                    have h7 : y * t ≤ t * sizeN d := by rw [Nat.mul_comm]; exact Nat.mul_le_mul_left t h6
                    rw [Nat.mul_add] at h5
                    omega)
                  go_wp2_with fail
                  go_ret
                  exact ⟨by rw [HF.out]; rfl, HB2.out⟩
                · have hoi : ¬ (1073741824 : Int) < (s : Int) + pr := by omega
                  have HF := hidden (show s + pr = 1 + t * sizes (kids.take (j + 1)) by
                    have h3 := hrow.out.2.2
                    have h4 := HPR.out
                    have hyd : y = sizeN d := by
                      have h8 := HY.out
                      by_cases h9 : sizeN d ≤ 1073741824
                      · omega
                      · exfalso
                        have : y = 1073741824 := by omega
                        have h10 : 1 * y ≤ t * y := Nat.mul_le_mul_right y ht1
                        rw [Nat.mul_comm t y] at h10
                        omega
                    rw [HSTK.out, Nat.mul_add, h3, h4, hyd, Nat.mul_comm (sizeN d) t]
                    omega)
                  go_wp2_with fail
                  go_roundw
                  case rel => exact ⟨s + pr, j + 1, by go_num, by go_num, by omega, by omega, HB2.out, HC2.out, HF.out⟩
                  case measure => simp [intOf]; omega
            · have hji : ¬ (j : Int) < kids.length := by omega
              have HF := hidden (show min 1073741824 (sizeN (.mk 5 f kids (l9 : Int) (t : Int))) = s by
                have h3 := hrow.out.2.2
                rw [List.take_of_length_le (by omega)] at h3
                rw [HTOT.out, ← h3]
                omega)
              go_wp2_with fail
              go_ret
              exact ⟨by rw [HF.out]; rfl, hrow.out.1⟩
        · obtain ⟨t, rfl⟩ : ∃ t, l9 = t := ⟨_, rfl⟩
          have hT : reps 5 (l9 : Int) hi = l9 := by unfold reps; rw [if_pos rfl]; omega
          have ht1 : 1 ≤ l9 := by omega
          have ht2 : l9 ≤ 200 := by omega
          have HTOT := hidden (show sizeN (.mk 5 f kids (l9 : Int) hi) = 1 + l9 * sizes kids by rw [sizeN, hT])
          have ht0 : ¬ (l9 : Int) = 0 := by omega
          have ht0b : ((l9 : Int) == 0) = false := by rw [beq_eq_false_iff_ne]; exact ht0
          have hti : (1 : Int) ≤ l9 := by omega
          obtain ⟨qq, hqq⟩ : ∃ qq, qq = 1073741824 / l9 := ⟨_, rfl⟩
          have hqd : Int.tdiv 1073741824 (l9 : Int) = (qq : Int) := by rw [hqq]; rfl
          have hqb : qq ≤ 1073741824 := by rw [hqq]; exact Nat.div_le_self _ _
          have HQQ := hidden hqq
          clear hqq hT
          go_enter Try.func20, Try.ntmps20
          go_wp2_with fail
          go_loopw [5, 7] (fun ka i wr => ∃ s j : Nat, ka = .int .i64 s ∧ i = .int .i64 j ∧ j ≤ kids.length ∧ s ≤ 1073741824 ∧ Hid (Below w.heap.size w wr ∧ Blk wr w.heap.size (.int .i64 5) (.int .u64 (word f 0)) (.int .u64 (word f 1)) (.int .u64 (word f 2)) (.int .u64 (word f 3)) (.slice a kids.length cap) (.int .i64 (l9 : Int)) (.int .i64 hi) ∧ s = 1 + l9 * sizes (kids.take j)))
            (fun _ i _ => kids.length - (intOf i).toNat)
          case atStart => exact ⟨1, 0, rfl, rfl, Nat.zero_le _, by omega, by (with_reducible (repeat (first | exact HB0.out | apply bel_alloc | apply bel_put | apply bel_set | apply Below.drew | apply below_drewN | omega))), by (with_reducible (repeat (first | exact HC0.out | exact Blk.newAt (by simp) | apply Blk.alloc | apply Blk.put | apply Blk.putOther | apply Blk.other | apply Blk.drewN | apply Blk.drew | omega))), by simp [sizes]⟩
          case round =>
            obtain ⟨s, j, rfl, rfl, hj, hs30, hrow⟩ := hrel
            obtain ⟨e0, e1, e2, e3, e4, e5, e6, e7⟩ := hrow.out.2.1.cells
            have hel := hrow.out.2.1.lt
            by_cases hlt : j < kids.length
            · have hji : (j : Int) < kids.length := by omega
              obtain ⟨d, hd⟩ : ∃ d, kids[j]? = some d := ⟨_, List.getElem?_eq_getElem hlt⟩
              obtain ⟨u, hu⟩ : ∃ u, vs[j]? = some u := ⟨_, List.getElem?_eq_getElem (by omega)⟩
              have hne : kids ≠ [] := fun e => by rw [e] at hlt; simp at hlt
              obtain ⟨b, o, rfl, hA, hce⟩ := HCE.out hne
              have hnc := hce j u hu
              have hbl := hnc.lt
              have hnc2 := hnc.keep (hrow.out.1.block b hbl)
              obtain ⟨c0, c1, c2, c3, c4, c5, c6, c7, rfl, q0, q1, q2, q3, q4, q5, q6, q7⟩ := hnc2
              have hN1 := HKI.out j _ d hu hd
              have hN2 := hN1.later hrow.out.1
              obtain ⟨z, y0, y1, y2, y3, sa, sn, sc, lo2, hi2, hsh⟩ := hN1.shapeI
              injection hsh with hsh
              simp at hsh
              obtain ⟨rfl, rfl, rfl, rfl, rfl, rfl, rfl, rfl⟩ := hsh
              have HN2 := hidden hN2
              have hcd := HCN.out j d hd
              have hcd2 : cntN d ≤ N := by omega
              have HCD := hidden hcd2
              have HRQ := hidden (HALL.out d (List.mem_of_getElem? hd))
              have HSAT := hidden (sizes_at hd)
              have HSTK := hidden (sizes_take hd)
              have hblr : b < wr.heap.size := Nat.lt_of_lt_of_le hbl hrow.out.1.size
              clear hN1 hN2 hce hnc hu hd hA hcd hcd2 hne
              go_wp2_with fail
              refine (HIH.out d HCD.out (by omega) m (deep + 1) _ _ A HRQ.out (by omega) (by (with_reducible (repeat (first | exact HN2.out | apply NodeAt.alloc | apply NodeAt.putN | apply NodeAt.other | apply NodeAt.putO | apply NodeAt.otherO | apply NodeAt.drewN | apply NodeAt.drew | omega))))).mono ?_
              rintro e w2 ⟨rfl, hb2⟩
              have HB2 := hidden (show Below w.heap.size w w2 from (by (with_reducible (repeat (first | exact hrow.out.1 | apply bel_alloc | apply bel_put | apply bel_set | apply Below.drew | apply below_drewN | omega))) : Below w.heap.size w _).trans (hb2.mono (by have := hrow.out.1.size; simp; omega)))
              have HC2 := hidden (Blk.later hrow.out.2.1 hb2)
              obtain ⟨y, hy⟩ : ∃ y, y = min 1073741824 (sizeN d) := ⟨_, rfl⟩
              rw [← hy]
              have HY := hidden hy
              have hyb : y ≤ 1073741824 := by omega
              clear hb2 hy
              by_cases hgr : qq < y
              · have hgi : (qq : Int) < y := by omega
                have HF := hidden (show min 1073741824 (sizeN (.mk 5 f kids (l9 : Int) hi)) = 1073741824 by
                  have := great_part (t := l9) (y := sizeN d) (by rw [← HQQ.out, ← HY.out]; exact hgr) ht1 HSAT.out HTOT.out
                  omega)
                go_wp2_with fail
                go_ret
                exact ⟨by rw [HF.out]; rfl, HB2.out⟩
              · have hgi : ¬ (qq : Int) < y := by omega
                have hprod : y * l9 ≤ 1073741824 := by
                  have := small_part (t := l9) (y := sizeN d) (by rw [← HQQ.out, ← HY.out]; exact hgr) ht1
                  rw [← HY.out] at this
                  exact this
                obtain ⟨pr, hpr⟩ : ∃ pr, pr = y * l9 := ⟨_, rfl⟩
                have hpri : (y : Int) * (l9 : Int) = (pr : Int) := by rw [hpr]; exact (Int.natCast_mul y l9).symm
                have hprb : pr ≤ 1073741824 := by omega
                have HPR := hidden hpr
                clear hprod hpr
                by_cases hov : 1073741824 < s + pr
                · have hoi : (1073741824 : Int) < (s : Int) + pr := by omega
                  have HF := hidden (show min 1073741824 (sizeN (.mk 5 f kids (l9 : Int) hi)) = 1073741824 by
                    have h1 := HTOT.out
                    have h2 := HSAT.out
                    have h3 := hrow.out.2.2
                    have h4 := HPR.out
                    have h5 : l9 * (sizes (kids.take j) + sizeN d) ≤ l9 * sizes kids := Nat.mul_le_mul_left l9 h2
                    have h6 : y ≤ sizeN d := by have := HY.out; omega
                    have h7 : y * l9 ≤ l9 * sizeN d := by rw [Nat.mul_comm]; exact Nat.mul_le_mul_left l9 h6
                    rw [Nat.mul_add] at h5
                    omega)
                  go_wp2_with fail
                  go_ret
                  exact ⟨by rw [HF.out]; rfl, HB2.out⟩
                · have hoi : ¬ (1073741824 : Int) < (s : Int) + pr := by omega
                  have HF := hidden (show s + pr = 1 + l9 * sizes (kids.take (j + 1)) by
                    have h3 := hrow.out.2.2
                    have h4 := HPR.out
                    have hyd : y = sizeN d := by
                      have h8 := HY.out
                      by_cases h9 : sizeN d ≤ 1073741824
                      · omega
                      · exfalso
                        have : y = 1073741824 := by omega
                        have h10 : 1 * y ≤ l9 * y := Nat.mul_le_mul_right y ht1
                        rw [Nat.mul_comm l9 y] at h10
                        omega
                    rw [HSTK.out, Nat.mul_add, h3, h4, hyd, Nat.mul_comm (sizeN d) l9]
                    omega)
                  go_wp2_with fail
                  go_roundw
                  case rel => exact ⟨s + pr, j + 1, by go_num, by go_num, by omega, by omega, HB2.out, HC2.out, HF.out⟩
                  case measure => simp [intOf]; omega
            · have hji : ¬ (j : Int) < kids.length := by omega
              have HF := hidden (show min 1073741824 (sizeN (.mk 5 f kids (l9 : Int) hi)) = s by
                have h3 := hrow.out.2.2
                rw [List.take_of_length_le (by omega)] at h3
                rw [HTOT.out, ← h3]
                omega)
              go_wp2_with fail
              go_ret
              exact ⟨by rw [HF.out]; rfl, hrow.out.1⟩
      · by_cases h2 : 1 < hi
        · obtain ⟨t, rfl⟩ := Int.eq_ofNat_of_zero_le (show 0 ≤ hi by omega)
          have hT : reps 5 lo (t : Int) = t := by unfold reps; rw [if_pos rfl]; omega
          have ht1 : 1 ≤ t := by omega
          have ht2 : t ≤ 200 := by omega
          have HTOT := hidden (show sizeN (.mk 5 f kids lo (t : Int)) = 1 + t * sizes kids by rw [sizeN, hT])
          have ht0 : ¬ (t : Int) = 0 := by omega
          have ht0b : ((t : Int) == 0) = false := by rw [beq_eq_false_iff_ne]; exact ht0
          have hti : (1 : Int) ≤ t := by omega
          obtain ⟨qq, hqq⟩ : ∃ qq, qq = 1073741824 / t := ⟨_, rfl⟩
          have hqd : Int.tdiv 1073741824 (t : Int) = (qq : Int) := by rw [hqq]; rfl
          have hqb : qq ≤ 1073741824 := by rw [hqq]; exact Nat.div_le_self _ _
          have HQQ := hidden hqq
          clear hqq hT
          go_enter Try.func20, Try.ntmps20
          go_wp2_with fail
          go_loopw [5, 7] (fun ka i wr => ∃ s j : Nat, ka = .int .i64 s ∧ i = .int .i64 j ∧ j ≤ kids.length ∧ s ≤ 1073741824 ∧ Hid (Below w.heap.size w wr ∧ Blk wr w.heap.size (.int .i64 5) (.int .u64 (word f 0)) (.int .u64 (word f 1)) (.int .u64 (word f 2)) (.int .u64 (word f 3)) (.slice a kids.length cap) (.int .i64 lo) (.int .i64 (t : Int)) ∧ s = 1 + t * sizes (kids.take j)))
            (fun _ i _ => kids.length - (intOf i).toNat)
          case atStart => exact ⟨1, 0, rfl, rfl, Nat.zero_le _, by omega, by (with_reducible (repeat (first | exact HB0.out | apply bel_alloc | apply bel_put | apply bel_set | apply Below.drew | apply below_drewN | omega))), by (with_reducible (repeat (first | exact HC0.out | exact Blk.newAt (by simp) | apply Blk.alloc | apply Blk.put | apply Blk.putOther | apply Blk.other | apply Blk.drewN | apply Blk.drew | omega))), by simp [sizes]⟩
          case round =>
            obtain ⟨s, j, rfl, rfl, hj, hs30, hrow⟩ := hrel
            obtain ⟨e0, e1, e2, e3, e4, e5, e6, e7⟩ := hrow.out.2.1.cells
            have hel := hrow.out.2.1.lt
            by_cases hlt : j < kids.length
            · have hji : (j : Int) < kids.length := by omega
              obtain ⟨d, hd⟩ : ∃ d, kids[j]? = some d := ⟨_, List.getElem?_eq_getElem hlt⟩
              obtain ⟨u, hu⟩ : ∃ u, vs[j]? = some u := ⟨_, List.getElem?_eq_getElem (by omega)⟩
              have hne : kids ≠ [] := fun e => by rw [e] at hlt; simp at hlt
              obtain ⟨b, o, rfl, hA, hce⟩ := HCE.out hne
              have hnc := hce j u hu
              have hbl := hnc.lt
              have hnc2 := hnc.keep (hrow.out.1.block b hbl)
              obtain ⟨c0, c1, c2, c3, c4, c5, c6, c7, rfl, q0, q1, q2, q3, q4, q5, q6, q7⟩ := hnc2
              have hN1 := HKI.out j _ d hu hd
              have hN2 := hN1.later hrow.out.1
              obtain ⟨z, y0, y1, y2, y3, sa, sn, sc, lo2, hi2, hsh⟩ := hN1.shapeI
              injection hsh with hsh
              simp at hsh
              obtain ⟨rfl, rfl, rfl, rfl, rfl, rfl, rfl, rfl⟩ := hsh
              have HN2 := hidden hN2
              have hcd := HCN.out j d hd
              have hcd2 : cntN d ≤ N := by omega
              have HCD := hidden hcd2
              have HRQ := hidden (HALL.out d (List.mem_of_getElem? hd))
              have HSAT := hidden (sizes_at hd)
              have HSTK := hidden (sizes_take hd)
              have hblr : b < wr.heap.size := Nat.lt_of_lt_of_le hbl hrow.out.1.size
              clear hN1 hN2 hce hnc hu hd hA hcd hcd2 hne
              go_wp2_with fail
              refine (HIH.out d HCD.out (by omega) m (deep + 1) _ _ A HRQ.out (by omega) (by (with_reducible (repeat (first | exact HN2.out | apply NodeAt.alloc | apply NodeAt.putN | apply NodeAt.other | apply NodeAt.putO | apply NodeAt.otherO | apply NodeAt.drewN | apply NodeAt.drew | omega))))).mono ?_
              rintro e w2 ⟨rfl, hb2⟩
              have HB2 := hidden (show Below w.heap.size w w2 from (by (with_reducible (repeat (first | exact hrow.out.1 | apply bel_alloc | apply bel_put | apply bel_set | apply Below.drew | apply below_drewN | omega))) : Below w.heap.size w _).trans (hb2.mono (by have := hrow.out.1.size; simp; omega)))
              have HC2 := hidden (Blk.later hrow.out.2.1 hb2)
              obtain ⟨y, hy⟩ : ∃ y, y = min 1073741824 (sizeN d) := ⟨_, rfl⟩
              rw [← hy]
              have HY := hidden hy
              have hyb : y ≤ 1073741824 := by omega
              clear hb2 hy
              by_cases hgr : qq < y
              · have hgi : (qq : Int) < y := by omega
                have HF := hidden (show min 1073741824 (sizeN (.mk 5 f kids lo (t : Int))) = 1073741824 by
                  have := great_part (t := t) (y := sizeN d) (by rw [← HQQ.out, ← HY.out]; exact hgr) ht1 HSAT.out HTOT.out
                  omega)
                go_wp2_with fail
                go_ret
                exact ⟨by rw [HF.out]; rfl, HB2.out⟩
              · have hgi : ¬ (qq : Int) < y := by omega
                have hprod : y * t ≤ 1073741824 := by
                  have := small_part (t := t) (y := sizeN d) (by rw [← HQQ.out, ← HY.out]; exact hgr) ht1
                  rw [← HY.out] at this
                  exact this
                obtain ⟨pr, hpr⟩ : ∃ pr, pr = y * t := ⟨_, rfl⟩
                have hpri : (y : Int) * (t : Int) = (pr : Int) := by rw [hpr]; exact (Int.natCast_mul y t).symm
                have hprb : pr ≤ 1073741824 := by omega
                have HPR := hidden hpr
                clear hprod hpr
                by_cases hov : 1073741824 < s + pr
                · have hoi : (1073741824 : Int) < (s : Int) + pr := by omega
                  have HF := hidden (show min 1073741824 (sizeN (.mk 5 f kids lo (t : Int))) = 1073741824 by
                    have h1 := HTOT.out
                    have h2 := HSAT.out
                    have h3 := hrow.out.2.2
                    have h4 := HPR.out
                    have h5 : t * (sizes (kids.take j) + sizeN d) ≤ t * sizes kids := Nat.mul_le_mul_left t h2
                    have h6 : y ≤ sizeN d := by have := HY.out; omega
                    have h7 : y * t ≤ t * sizeN d := by rw [Nat.mul_comm]; exact Nat.mul_le_mul_left t h6
                    rw [Nat.mul_add] at h5
                    omega)
                  go_wp2_with fail
                  go_ret
                  exact ⟨by rw [HF.out]; rfl, HB2.out⟩
                · have hoi : ¬ (1073741824 : Int) < (s : Int) + pr := by omega
                  have HF := hidden (show s + pr = 1 + t * sizes (kids.take (j + 1)) by
                    have h3 := hrow.out.2.2
                    have h4 := HPR.out
                    have hyd : y = sizeN d := by
                      have h8 := HY.out
                      by_cases h9 : sizeN d ≤ 1073741824
                      · omega
                      · exfalso
                        have : y = 1073741824 := by omega
                        have h10 : 1 * y ≤ t * y := Nat.mul_le_mul_right y ht1
                        rw [Nat.mul_comm t y] at h10
                        omega
                    rw [HSTK.out, Nat.mul_add, h3, h4, hyd, Nat.mul_comm (sizeN d) t]
                    omega)
                  go_wp2_with fail
                  go_roundw
                  case rel => exact ⟨s + pr, j + 1, by go_num, by go_num, by omega, by omega, HB2.out, HC2.out, HF.out⟩
                  case measure => simp [intOf]; omega
            · have hji : ¬ (j : Int) < kids.length := by omega
              have HF := hidden (show min 1073741824 (sizeN (.mk 5 f kids lo (t : Int))) = s by
                have h3 := hrow.out.2.2
                rw [List.take_of_length_le (by omega)] at h3
                rw [HTOT.out, ← h3]
                omega)
              go_wp2_with fail
              go_ret
              exact ⟨by rw [HF.out]; rfl, hrow.out.1⟩
        · obtain ⟨t, ht⟩ : ∃ t : Nat, t = 1 := ⟨_, rfl⟩
          have hT : reps 5 lo hi = t := by unfold reps; rw [if_pos rfl]; omega
          have ht1 : 1 ≤ t := by omega
          have ht2 : t ≤ 200 := by omega
          subst ht
          have HTOT := hidden (show sizeN (.mk 5 f kids lo hi) = 1 + 1 * sizes kids by rw [sizeN, hT])
          clear hT
          go_enter Try.func20, Try.ntmps20
          go_wp2_with fail
          go_loopw [5, 7] (fun ka i wr => ∃ s j : Nat, ka = .int .i64 s ∧ i = .int .i64 j ∧ j ≤ kids.length ∧ s ≤ 1073741824 ∧ Hid (Below w.heap.size w wr ∧ Blk wr w.heap.size (.int .i64 5) (.int .u64 (word f 0)) (.int .u64 (word f 1)) (.int .u64 (word f 2)) (.int .u64 (word f 3)) (.slice a kids.length cap) (.int .i64 lo) (.int .i64 hi) ∧ s = 1 + 1 * sizes (kids.take j)))
            (fun _ i _ => kids.length - (intOf i).toNat)
          case atStart => exact ⟨1, 0, rfl, rfl, Nat.zero_le _, by omega, by (with_reducible (repeat (first | exact HB0.out | apply bel_alloc | apply bel_put | apply bel_set | apply Below.drew | apply below_drewN | omega))), by (with_reducible (repeat (first | exact HC0.out | exact Blk.newAt (by simp) | apply Blk.alloc | apply Blk.put | apply Blk.putOther | apply Blk.other | apply Blk.drewN | apply Blk.drew | omega))), by simp [sizes]⟩
          case round =>
            obtain ⟨s, j, rfl, rfl, hj, hs30, hrow⟩ := hrel
            obtain ⟨e0, e1, e2, e3, e4, e5, e6, e7⟩ := hrow.out.2.1.cells
            have hel := hrow.out.2.1.lt
            by_cases hlt : j < kids.length
            · have hji : (j : Int) < kids.length := by omega
              obtain ⟨d, hd⟩ : ∃ d, kids[j]? = some d := ⟨_, List.getElem?_eq_getElem hlt⟩
              obtain ⟨u, hu⟩ : ∃ u, vs[j]? = some u := ⟨_, List.getElem?_eq_getElem (by omega)⟩
              have hne : kids ≠ [] := fun e => by rw [e] at hlt; simp at hlt
              obtain ⟨b, o, rfl, hA, hce⟩ := HCE.out hne
              have hnc := hce j u hu
              have hbl := hnc.lt
              have hnc2 := hnc.keep (hrow.out.1.block b hbl)
              obtain ⟨c0, c1, c2, c3, c4, c5, c6, c7, rfl, q0, q1, q2, q3, q4, q5, q6, q7⟩ := hnc2
              have hN1 := HKI.out j _ d hu hd
              have hN2 := hN1.later hrow.out.1
              obtain ⟨z, y0, y1, y2, y3, sa, sn, sc, lo2, hi2, hsh⟩ := hN1.shapeI
              injection hsh with hsh
              simp at hsh
              obtain ⟨rfl, rfl, rfl, rfl, rfl, rfl, rfl, rfl⟩ := hsh
              have HN2 := hidden hN2
              have hcd := HCN.out j d hd
              have hcd2 : cntN d ≤ N := by omega
              have HCD := hidden hcd2
              have HRQ := hidden (HALL.out d (List.mem_of_getElem? hd))
              have HSAT := hidden (sizes_at hd)
              have HSTK := hidden (sizes_take hd)
              have hblr : b < wr.heap.size := Nat.lt_of_lt_of_le hbl hrow.out.1.size
              clear hN1 hN2 hce hnc hu hd hA hcd hcd2 hne
              go_wp2_with fail
              refine (HIH.out d HCD.out (by omega) m (deep + 1) _ _ A HRQ.out (by omega) (by (with_reducible (repeat (first | exact HN2.out | apply NodeAt.alloc | apply NodeAt.putN | apply NodeAt.other | apply NodeAt.putO | apply NodeAt.otherO | apply NodeAt.drewN | apply NodeAt.drew | omega))))).mono ?_
              rintro e w2 ⟨rfl, hb2⟩
              have HB2 := hidden (show Below w.heap.size w w2 from (by (with_reducible (repeat (first | exact hrow.out.1 | apply bel_alloc | apply bel_put | apply bel_set | apply Below.drew | apply below_drewN | omega))) : Below w.heap.size w _).trans (hb2.mono (by have := hrow.out.1.size; simp; omega)))
              have HC2 := hidden (Blk.later hrow.out.2.1 hb2)
              obtain ⟨y, hy⟩ : ∃ y, y = min 1073741824 (sizeN d) := ⟨_, rfl⟩
              rw [← hy]
              have HY := hidden hy
              have hyb : y ≤ 1073741824 := by omega
              clear hb2 hy
              have hgi : ¬ (1073741824 : Int) < y := by omega
              have HPR := hidden (show y = y * 1 by omega)
              by_cases hov : 1073741824 < s + y
              · have hoi : (1073741824 : Int) < (s : Int) + y := by omega
                have HF := hidden (show min 1073741824 (sizeN (.mk 5 f kids lo hi)) = 1073741824 by
                  have h1 := HTOT.out
                  have h2 := HSAT.out
                  have h3 := hrow.out.2.2
                  have h4 := HPR.out
                  have h5 : 1 * (sizes (kids.take j) + sizeN d) ≤ 1 * sizes kids := Nat.mul_le_mul_left 1 h2
                  have h6 : y ≤ sizeN d := by have := HY.out; omega
                  have h7 : y * 1 ≤ 1 * sizeN d := by rw [Nat.mul_comm]; exact Nat.mul_le_mul_left 1 h6
                  rw [Nat.mul_add] at h5
                  omega)
                go_wp2_with fail
                go_ret
                exact ⟨by rw [HF.out]; rfl, HB2.out⟩
              · have hoi : ¬ (1073741824 : Int) < (s : Int) + y := by omega
                have HF := hidden (show s + y = 1 + 1 * sizes (kids.take (j + 1)) by
                  have h3 := hrow.out.2.2
                  have h4 := HPR.out
                  have hyd : y = sizeN d := by
                    have h8 := HY.out
                    by_cases h9 : sizeN d ≤ 1073741824
                    · omega
                    · exfalso
                      have : y = 1073741824 := by omega
                      have h10 : 1 * y ≤ 1 * y := Nat.mul_le_mul_right y ht1
                      rw [Nat.mul_comm 1 y] at h10
                      omega
                  rw [HSTK.out, Nat.mul_add, h3, hyd]
                  omega)
                go_wp2_with fail
                go_roundw
                case rel => exact ⟨s + y, j + 1, by go_num, by go_num, by omega, by omega, HB2.out, HC2.out, HF.out⟩
                case measure => simp [intOf]; omega
            · have hji : ¬ (j : Int) < kids.length := by omega
              have HF := hidden (show min 1073741824 (sizeN (.mk 5 f kids lo hi)) = s by
                have h3 := hrow.out.2.2
                rw [List.take_of_length_le (by omega)] at h3
                rw [HTOT.out, ← h3]
                omega)
              go_wp2_with fail
              go_ret
              exact ⟨by rw [HF.out]; rfl, hrow.out.1⟩
    · have hkb : (k == 5) = false := by rw [beq_eq_false_iff_ne]; exact hk5
      have hT : reps k lo hi = 1 := by unfold reps; rw [if_neg hk5]
      have ht1 : 1 ≤ 1 := by omega
      clear hk5
      have HTOT := hidden (show sizeN (.mk k f kids lo hi) = 1 + 1 * sizes kids by rw [sizeN, hT])
      clear hT
      go_enter Try.func20, Try.ntmps20
      go_wp2_with fail
      go_loopw [5, 7] (fun ka i wr => ∃ s j : Nat, ka = .int .i64 s ∧ i = .int .i64 j ∧ j ≤ kids.length ∧ s ≤ 1073741824 ∧ Hid (Below w.heap.size w wr ∧ Blk wr w.heap.size (.int .i64 k) (.int .u64 (word f 0)) (.int .u64 (word f 1)) (.int .u64 (word f 2)) (.int .u64 (word f 3)) (.slice a kids.length cap) (.int .i64 lo) (.int .i64 hi) ∧ s = 1 + 1 * sizes (kids.take j)))
        (fun _ i _ => kids.length - (intOf i).toNat)
      case atStart => exact ⟨1, 0, rfl, rfl, Nat.zero_le _, by omega, by (with_reducible (repeat (first | exact HB0.out | apply bel_alloc | apply bel_put | apply bel_set | apply Below.drew | apply below_drewN | omega))), by (with_reducible (repeat (first | exact HC0.out | exact Blk.newAt (by simp) | apply Blk.alloc | apply Blk.put | apply Blk.putOther | apply Blk.other | apply Blk.drewN | apply Blk.drew | omega))), by simp [sizes]⟩
      case round =>
        obtain ⟨s, j, rfl, rfl, hj, hs30, hrow⟩ := hrel
        obtain ⟨e0, e1, e2, e3, e4, e5, e6, e7⟩ := hrow.out.2.1.cells
        have hel := hrow.out.2.1.lt
        by_cases hlt : j < kids.length
        · have hji : (j : Int) < kids.length := by omega
          obtain ⟨d, hd⟩ : ∃ d, kids[j]? = some d := ⟨_, List.getElem?_eq_getElem hlt⟩
          obtain ⟨u, hu⟩ : ∃ u, vs[j]? = some u := ⟨_, List.getElem?_eq_getElem (by omega)⟩
          have hne : kids ≠ [] := fun e => by rw [e] at hlt; simp at hlt
          obtain ⟨b, o, rfl, hA, hce⟩ := HCE.out hne
          have hnc := hce j u hu
          have hbl := hnc.lt
          have hnc2 := hnc.keep (hrow.out.1.block b hbl)
          obtain ⟨c0, c1, c2, c3, c4, c5, c6, c7, rfl, q0, q1, q2, q3, q4, q5, q6, q7⟩ := hnc2
          have hN1 := HKI.out j _ d hu hd
          have hN2 := hN1.later hrow.out.1
          obtain ⟨z, y0, y1, y2, y3, sa, sn, sc, lo2, hi2, hsh⟩ := hN1.shapeI
          injection hsh with hsh
          simp at hsh
          obtain ⟨rfl, rfl, rfl, rfl, rfl, rfl, rfl, rfl⟩ := hsh
          have HN2 := hidden hN2
          have hcd := HCN.out j d hd
          have hcd2 : cntN d ≤ N := by omega
          have HCD := hidden hcd2
          have HRQ := hidden (HALL.out d (List.mem_of_getElem? hd))
          have HSAT := hidden (sizes_at hd)
          have HSTK := hidden (sizes_take hd)
          have hblr : b < wr.heap.size := Nat.lt_of_lt_of_le hbl hrow.out.1.size
          clear hN1 hN2 hce hnc hu hd hA hcd hcd2 hne
          go_wp2_with fail
          refine (HIH.out d HCD.out (by omega) m (deep + 1) _ _ A HRQ.out (by omega) (by (with_reducible (repeat (first | exact HN2.out | apply NodeAt.alloc | apply NodeAt.putN | apply NodeAt.other | apply NodeAt.putO | apply NodeAt.otherO | apply NodeAt.drewN | apply NodeAt.drew | omega))))).mono ?_
          rintro e w2 ⟨rfl, hb2⟩
          have HB2 := hidden (show Below w.heap.size w w2 from (by (with_reducible (repeat (first | exact hrow.out.1 | apply bel_alloc | apply bel_put | apply bel_set | apply Below.drew | apply below_drewN | omega))) : Below w.heap.size w _).trans (hb2.mono (by have := hrow.out.1.size; simp; omega)))
          have HC2 := hidden (Blk.later hrow.out.2.1 hb2)
          obtain ⟨y, hy⟩ : ∃ y, y = min 1073741824 (sizeN d) := ⟨_, rfl⟩
          rw [← hy]
          have HY := hidden hy
          have hyb : y ≤ 1073741824 := by omega
          clear hb2 hy
          have hgi : ¬ (1073741824 : Int) < y := by omega
          have HPR := hidden (show y = y * 1 by omega)
          by_cases hov : 1073741824 < s + y
          · have hoi : (1073741824 : Int) < (s : Int) + y := by omega
            have HF := hidden (show min 1073741824 (sizeN (.mk k f kids lo hi)) = 1073741824 by
              have h1 := HTOT.out
              have h2 := HSAT.out
              have h3 := hrow.out.2.2
              have h4 := HPR.out
              have h5 : 1 * (sizes (kids.take j) + sizeN d) ≤ 1 * sizes kids := Nat.mul_le_mul_left 1 h2
              have h6 : y ≤ sizeN d := by have := HY.out; omega
              have h7 : y * 1 ≤ 1 * sizeN d := by rw [Nat.mul_comm]; exact Nat.mul_le_mul_left 1 h6
              rw [Nat.mul_add] at h5
              omega)
            go_wp2_with fail
            go_ret
            exact ⟨by rw [HF.out]; rfl, HB2.out⟩
          · have hoi : ¬ (1073741824 : Int) < (s : Int) + y := by omega
            have HF := hidden (show s + y = 1 + 1 * sizes (kids.take (j + 1)) by
              have h3 := hrow.out.2.2
              have h4 := HPR.out
              have hyd : y = sizeN d := by
                have h8 := HY.out
                by_cases h9 : sizeN d ≤ 1073741824
                · omega
                · exfalso
                  have : y = 1073741824 := by omega
                  have h10 : 1 * y ≤ 1 * y := Nat.mul_le_mul_right y ht1
                  rw [Nat.mul_comm 1 y] at h10
                  omega
              rw [HSTK.out, Nat.mul_add, h3, hyd]
              omega)
            go_wp2_with fail
            go_roundw
            case rel => exact ⟨s + y, j + 1, by go_num, by go_num, by omega, by omega, HB2.out, HC2.out, HF.out⟩
            case measure => simp [intOf]; omega
        · have hji : ¬ (j : Int) < kids.length := by omega
          have HF := hidden (show min 1073741824 (sizeN (.mk k f kids lo hi)) = s by
            have h3 := hrow.out.2.2
            rw [List.take_of_length_le (by omega)] at h3
            rw [HTOT.out, ← h3]
            omega)
          go_wp2_with fail
          go_ret
          exact ⟨by rw [HF.out]; rfl, hrow.out.1⟩

set_option maxHeartbeats 2000000 in
theorem qSize_any (x : Nd) (v : Value) (w : World) (A : Nat → Prop) (hx : NodeAt w A v x) (hc : cntN x ≤ 1048576) (hr : rqN x 201 = true) :
    Calls Try.prog 11 #[v] w fun e w' => e = .returned (.int .i64 (min 1073741824 (sizeN x) : Nat)) ∧ Below w.heap.size w w' := by
  have HX := hidden hx
  obtain ⟨z, y0, y1, y2, y3, sa, sn, sc, lo, hi, rfl⟩ := hx.shapeI
  have HB0 := hidden (Below.refl w.heap.size w)
  clear hx
  go_enter Try.func11, Try.ntmps11
  go_wp2_with fail
  refine (qsize_any (cntN x) x (Nat.le_refl _) hc 201 0 _ _ A hr (by omega) (by (with_reducible (repeat (first | exact HX.out | apply NodeAt.alloc | apply NodeAt.putN | apply NodeAt.other | apply NodeAt.putO | apply NodeAt.otherO | apply NodeAt.drewN | apply NodeAt.drew | omega))))).mono ?_
  rintro e w1 ⟨rfl, hb1⟩
  have HB1 := hidden (show Below w.heap.size w w1 from (by (with_reducible (repeat (first | exact HB0.out | apply bel_alloc | apply bel_put | apply bel_set | apply Below.drew | apply below_drewN | omega))) : Below w.heap.size w _).trans (hb1.mono (by simp)))
  clear hb1
  obtain ⟨q, hq⟩ : ∃ q : Int, ((min 1073741824 (sizeN x) : Nat) : Int) = q := ⟨_, rfl⟩
  rw [hq]
  have HQ := hidden hq
  clear hq
  go_wp2
  go_ret
  exact ⟨by rw [HQ.out]; rfl, HB1.out⟩
set_option maxHeartbeats 2000000 in
theorem qRight_any (x : Nd) (v : Value) (w : World) (A : Nat → Prop) (hx : NodeAt w A v x) (hc : cntN x ≤ 1048576) :
    Calls Try.prog 23 #[v] w fun e w' => e = .returned (.bool (rightN x)) ∧ Below w.heap.size w w' := by
  have HX := hidden hx
  obtain ⟨z, y0, y1, y2, y3, sa, sn, sc, lo, hi, rfl⟩ := hx.shapeI
  have HZ0 := hidden (Blk.new w (.int .i64 z) (.int .u64 y0) (.int .u64 y1) (.int .u64 y2) (.int .u64 y3) (.slice sa sn sc) (.int .i64 lo) (.int .i64 hi))
  have HB0 := hidden (Below.refl w.heap.size w)
  clear hx
  go_enter Try.func23, Try.ntmps23
  go_wp2_with fail
  refine (rightNode_any (cntN x) x (Nat.le_refl _) hc 201 200 _ _ A (by omega) rfl (by (with_reducible (repeat (first | exact HX.out | apply NodeAt.alloc | apply NodeAt.putN | apply NodeAt.other | apply NodeAt.putO | apply NodeAt.otherO | apply NodeAt.drewN | apply NodeAt.drew | omega))))).mono ?_
  rintro e w1 ⟨rfl, hb1⟩
  have HB1 := hidden (show Below w.heap.size w w1 from (by (with_reducible (repeat (first | exact HB0.out | apply bel_alloc | apply bel_put | apply bel_set | apply Below.drew | apply below_drewN | omega))) : Below w.heap.size w _).trans (hb1.mono (by simp)))
  have HZ1 := hidden (Blk.later HZ0.out hb1)
  have HX1 := hidden (NodeAt.later (A := A) (v := .agg #[.int .i64 z, .int .u64 y0, .int .u64 y1, .int .u64 y2, .int .u64 y3, .slice sa sn sc, .int .i64 lo, .int .i64 hi]) (d := x) (by (with_reducible (repeat (first | exact HX.out | apply NodeAt.alloc | apply NodeAt.putN | apply NodeAt.other | apply NodeAt.putO | apply NodeAt.otherO | apply NodeAt.drewN | apply NodeAt.drew | omega)))) hb1)
  obtain ⟨z0, z1, z2, z3, z4, z5, z6, z7⟩ := HZ1.out.cells
  have HE := hidden (show rightN x = (decide (sizeN x ≤ 20000) && rqN x 201) from rfl)
  clear hb1
  cases hrq : rqN x 201 with
  | false =>
    have HF := hidden (show rightN x = false by rw [HE.out, hrq]; simp)
    go_wp2_with fail
    go_ret
    exact ⟨by rw [HF.out]; rfl, HB1.out⟩
  | true =>
    go_wp2_with fail
    refine (qSize_any x _ _ A HX1.out hc hrq).mono ?_
    rintro e w2 ⟨rfl, hb2⟩
    have HB2 := hidden (HB1.out.trans (hb2.mono HB1.out.size))
    clear hb2
    by_cases hs : sizeN x ≤ 20000
    · have hsi : ((min 1073741824 (sizeN x) : Nat) : Int) ≤ 20000 := by omega
      generalize ((min 1073741824 (sizeN x) : Nat) : Int) = q at hsi ⊢
      have HF := hidden (show rightN x = true by rw [HE.out, hrq]; simp [hs])
      have hsd : decide (q ≤ 20000) = true := decide_eq_true hsi
      clear hs
      go_wp2_with fail
      go_ret
      exact ⟨by rw [HF.out]; rfl, HB2.out⟩
    · have hsi : ¬ ((min 1073741824 (sizeN x) : Nat) : Int) ≤ 20000 := by omega
      generalize ((min 1073741824 (sizeN x) : Nat) : Int) = q at hsi ⊢
      have HF := hidden (show rightN x = false by rw [HE.out, hrq]; simp [hs])
      have hsd : decide (q ≤ 20000) = false := decide_eq_false hsi
      clear hs
      go_wp2_with fail
      go_ret
      exact ⟨by rw [HF.out]; rfl, HB2.out⟩

end Go.Proofs.Ytjlihidmohokhaa
