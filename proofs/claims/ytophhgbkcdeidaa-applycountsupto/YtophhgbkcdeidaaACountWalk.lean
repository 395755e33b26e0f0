
/-
  The law ApplyCounts answers true at whatever steps and lines of at most 1048576 steps, lines and bytes, and leaves what lay in memory as it was.
-/
import Derived.Test.YtophhgbkcdeidaaALaw
namespace Go.Proofs.Ytophhgbkcdeidaa
open Go.RowKit Go.Proofs.Ytophhgbkcdeidaa.Ln Go.Proofs.Ytophhgbkcdeidaa.Ol

set_option maxRecDepth 3000 in
set_option maxHeartbeats 8000000 in
theorem applyCounts_any (v : Value) (xs : List Oq) (u : Value) (old : List Tx) (w : World) (hX : OpsAt w v xs) (hlx : xs.length ≤ 1048576) (hfX : Fit xs) (hY : RowAt w u old) (hlo : old.length ≤ 1048576) (hno : old.flatten.length ≤ 1048576) :
    Calls Try.prog 5 #[v, u] w fun e w' => e = .returned (.bool true) ∧ Below w.heap.size w w' := by
  have HX0 := hidden hX
  have HY0 := hidden hY
  have HB0 := hidden (Below.refl w.heap.size w)
  have HFX := hidden hfX
  have HNO := hidden hno
  have HFO := hidden (fitT_flat hno)
  obtain ⟨ao, cap, rfl⟩ := hX.shape
  obtain ⟨bo, cap2, rfl⟩ := hY.shape
  clear hX hY hfX hno
  go_enter Try.func5, Try.ntmps5
  go_wp2_with fail
  refine (alive9_any _).mono ?_
  rintro e w1 ⟨rfl, hb⟩
  have HX1 := hidden (HX0.out.later hb)
  have HY1 := hidden (HY0.out.later hb)
  have HB1 := hidden (HB0.out.trans (hb.mono HB0.out.size))
  clear hb
  go_wp2_with fail
  refine (few_any _ xs w1 HX1.out (by omega)).mono ?_
  rintro e w' ⟨⟨c, rfl⟩, hw⟩
  subst w'
  cases c with
  | false =>
    go_wp2_with fail
    go_ret
    exact ⟨rfl, HB1.out⟩
  | true =>
    go_wp2_with fail
    refine (short_any _ old w1 HY1.out (by omega) (by have := HNO.out; omega)).mono ?_
    rintro e w2 ⟨⟨c, rfl⟩, hb⟩
    have HX2 := hidden (HX1.out.later hb)
    have HY2 := hidden (HY1.out.later hb)
    have HB2 := hidden (HB1.out.trans (hb.mono HB1.out.size))
    clear hb
    clear HX1 HY1 HB1
    cases c with
    | false =>
      go_wp2_with fail
      go_ret
      exact ⟨rfl, HB2.out⟩
    | true =>
      have HDC := hidden (fun (a : List Tx) (h : doo xs old = some a) => And.intro (doo_len h) (doo_counts h))
      have HDR := hidden (fun (a : List Tx) (h : doo xs old = some a) => (doo_some h).1)
      have HDH := hidden (fun (a : List Tx) (h : doo xs old = some a) (n : Int) (t : Tx) => doo_head h (n := n) (t := t))
      obtain ⟨r, hr⟩ : ∃ r, doo xs old = r := ⟨_, rfl⟩
      have HR := hidden hr
      cases r with
      | none =>
        clear hr
        go_wp2_with fail
        refine (do_any _ xs _ old w2 HX2.out HY2.out (by omega) HFX.out HFO.out).mono ?_
        rw [HR.out]
        rintro e w3 ⟨q1, rfl, ho, hb⟩
        have HX3 := hidden (HX2.out.later hb)
        have HY3 := hidden (HY2.out.later hb)
        have HB3 := hidden (HB2.out.trans (hb.mono HB2.out.size))
        clear hb
        clear HX2 HY2 HB2
        obtain ⟨qa, qc, rfl, _⟩ := owns_formT ho
        rw [show (Option.getD (none : Option (List Tx)) []).length = 0 from rfl]
        go_wp2_with fail
        go_ret
        exact ⟨by first | rfl | simp, HB3.out⟩
      | some a =>
        have hal := (HDC.out a hr).1
        obtain ⟨n, m, hn, hm, hnm, hno, hma, hsame⟩ := (HDC.out a hr).2
        have HRT := hidden (HDR.out a hr)
        have HC3 := hidden (show cnt 3 xs = n by rw [cnt_is 3 xs (right_parts HRT.out).2.2.2.1]; exact hn)
        have HC4 := hidden (show cnt 4 xs = m by rw [cnt_is 4 xs (right_parts HRT.out).2.2.2.2]; exact hm)
        have HS := hidden hsame
        have HHD := hidden (HDH.out a hr)
        clear hr hn hm hsame HDC HDR HDH
        go_wp2_with fail
        refine (do_any _ xs _ old w2 HX2.out HY2.out (by omega) HFX.out HFO.out).mono ?_
        rw [HR.out]
        rintro e w3 ⟨q1, rfl, ho, hb⟩
        have HX3 := hidden (HX2.out.later hb)
        have HY3 := hidden (HY2.out.later hb)
        have HB3 := hidden (HB2.out.trans (hb.mono HB2.out.size))
        clear hb
        clear HX2 HY2 HB2
        have HP3 := hidden (RowAt.of_owns ho)
        clear ho
        obtain ⟨qa, qc, rfl⟩ : ∃ b c, q1 = .slice b a.length c := by obtain ⟨b, c, e⟩ := HP3.out.shape; exact ⟨_, _, e⟩
        rw [show (Option.isSome (some a)) = true from rfl]
        go_wp2_with fail
        refine (polds_any _ xs w3 HX3.out (by omega)).mono ?_
        rw [HC3.out]
        rintro e w4 ⟨rfl, hb⟩
        have HX4 := hidden (HX3.out.later hb)
        have HY4 := hidden (HY3.out.later hb)
        have HP4 := hidden (HP3.out.later hb)
        have HB4 := hidden (HB3.out.trans (hb.mono HB3.out.size))
        clear hb
        clear HX3 HY3 HP3 HB3
        go_wp2_with fail
        refine (pnews_any _ xs w4 HX4.out (by omega)).mono ?_
        rw [HC4.out]
        rintro e w5 ⟨rfl, hb⟩
        have HX5 := hidden (HX4.out.later hb)
        have HY5 := hidden (HY4.out.later hb)
        have HP5 := hidden (HP4.out.later hb)
        have HB5 := hidden (HB4.out.trans (hb.mono HB4.out.size))
        clear hb
        clear HX4 HY4 HP4 HB4
        have hw1 : wrap64 ((old.length : Int) + m) = (old.length : Int) + m := by unfold wrap64; omega
        have hw2 : wrap64 ((old.length : Int) + m - n) = a.length := by unfold wrap64; omega
        have hw3 : ((a.length : Int) != a.length) = false := by simp
        have hw4 : decide ((n : Int) > old.length) = false := by simp; omega
        have hw5 : decide ((m : Int) > a.length) = false := by simp; omega
        have hw6 : decide ((old.length : Int) < n) = false := by simp; omega
        have hw7 : decide ((a.length : Int) < m) = false := by simp; omega
        go_wp2_with fail
        go_loopw [10] (fun i wr => ∃ k : Nat, n ≤ k ∧ k ≤ old.length ∧ i = .int .i64 k ∧ Hid (Below w5.heap.size w5 wr)) (fun i _ => old.length - (intOf i).toNat)
        case atStart => exact ⟨n, Nat.le_refl _, hno, rfl, Below.refl _ _⟩
        case round =>
          obtain ⟨k, hnk, hk, rfl, hbl⟩ := hrel
          clear hw1 hw2 hw3 hw4 hw5 hw6 hw7
          by_cases hlt : k < old.length
          · obtain ⟨x, hx⟩ : ∃ x, old[k]? = some x := ⟨old[k], List.getElem?_eq_getElem hlt⟩
            obtain ⟨j, hj⟩ : ∃ j, m + k - n = j := ⟨_, rfl⟩
            have hxa : a[j]? = some x := by rw [← hj, HS.out k hnk]; exact hx
            have hja := (List.getElem?_eq_some_iff.1 hxa).1
            obtain ⟨_, _, e, hcA⟩ := HP5.out.open_
            cases e
            obtain ⟨b1, o1, hqa, hcap1, hb1, hc1⟩ := hcA j x hxa
            subst hqa
            obtain ⟨_, _, e, hcB⟩ := HY5.out.open_
            cases e
            obtain ⟨b2, o2, hqb, hcap2, hb2, hc2⟩ := hcB k x hx
            subst hqb
            have hc1' := (hbl.out.cell (p := ⟨b1, o1 + j, none⟩) hb1).trans hc1
            have hc2' := (hbl.out.cell (p := ⟨b2, o2 + k, none⟩) hb2).trans hc2
            have hj0 : (m : Int) + k - n = j := by omega
            have hkb : k ≤ 1048576 := by omega
            have hmb : m ≤ 2097152 := by omega
            have hjb : j ≤ 2097152 := by omega
            clear hj hal hnm
            have hj5 : (0 : Int) ≤ j := by omega
            have hj6 : (j : Int) < a.length := by omega
            have hqq : (x != x) = false := by simp
            clear hcA hcB hc1 hc2 hx hxa
            go_wp2_with fail
            go_quiet (fail)
            go_wp2_with fail
            have hb3 := below_drewN hbl.out nq
            go_roundw
            case rel => exact ⟨k + 1, by omega, by omega, by go_num, hb3⟩
            case measure => simp [intOf]; omega
          · have HB9 := hidden (HB5.out.trans (hbl.out.mono HB5.out.size))
            have HX9 := hidden (HX5.out.later hbl.out)
            have HY9 := hidden (HY5.out.later hbl.out)
            have HP9 := hidden (HP5.out.later hbl.out)
            clear HX5 HY5 HP5 HB5 hbl
            obtain ⟨_, _, e, hcX⟩ := HX9.out.open_
            cases e
            by_cases hne : xs = []
            · subst hne
              clear hcX
              go_wp2_with fail
              refine wp_loop_rounds 1 ?_
              rw [rounds_succ]
              go_wp2_with fail
              go_ret
              exact ⟨rfl, HB9.out⟩
            · have hpos : 0 < xs.length := List.length_pos_iff.2 hne
              obtain ⟨x1, x2, x3, hx⟩ := op_some hpos
              obtain ⟨b, o, hao, hcap, hb, hcc⟩ := hcX 0 _ hx
              subst hao
              obtain ⟨c1, c2, c3⟩ := hcc
              rw [show o + 0 * 3 = o by omega] at c1 c2 c3
              simp only at c1 c2 c3
              have HX0 := hidden hx
              have hd1 : decide ((xs.length : Int) > 0) = true := by simp; omega
              have hd2 : decide (0 < (xs.length : Int)) = true := by simp; omega
              clear hcX hx hne
              by_cases h1 : x1 = 1
              · subst h1
                have HH := hidden (fun i => HHD.out x2 x3 HX0.out i)
                go_wp2_with fail
                go_loopw [11] (fun i ws => ∃ k : Nat, ((k : Int) ≤ x2 ∨ k = 0) ∧ i = .int .i64 k ∧ Hid (Below wr.heap.size wr ws)) (fun i _ => x2.toNat - (intOf i).toNat)
                case atStart => exact ⟨0, Or.inr rfl, rfl, Below.refl _ _⟩
                case round =>
                  obtain ⟨k, hk, rfl, hbl⟩ := hrel
                  have e1 := (hbl.out.cell (p := ⟨b, o, none⟩) hb).trans c1
                  have e2 := (hbl.out.cell (p := ⟨b, o + 1, none⟩) hb).trans c2
                  by_cases hlt : (k : Int) < x2
                  · obtain ⟨hsm, hko, hka⟩ := HH.out k hlt
                    obtain ⟨x, hx⟩ : ∃ x, old[k]? = some x := ⟨old[k], List.getElem?_eq_getElem hko⟩
                    rw [hx] at hsm
                    obtain ⟨_, _, e, hcA⟩ := HP9.out.open_
                    cases e
                    obtain ⟨b1, o1, hqa, hcap1, hb1, hc1⟩ := hcA k x hsm
                    subst hqa
                    obtain ⟨_, _, e, hcB⟩ := HY9.out.open_
                    cases e
                    obtain ⟨b2, o2, hqb, hcap2, hb2, hc2⟩ := hcB k x hx
                    subst hqb
                    have hc1' := (hbl.out.cell (p := ⟨b1, o1 + k, none⟩) hb1).trans hc1
                    have hc2' := (hbl.out.cell (p := ⟨b2, o2 + k, none⟩) hb2).trans hc2
                    have hqq : (x != x) = false := by simp
                    have hkx : x2 ≤ old.length + 1 := by
                      by_cases hq : (old.length : Int) < x2
                      · have := (HH.out old.length hq).2.1; omega
                      · omega
                    have hd3 : decide ((k : Int) < x2) = true := by simp; omega
                    clear hcA hcB hc1 hc2 hx hsm
                    go_wp2_with fail
                    go_quiet (fail)
                    go_wp2_with fail
                    have hb3 := below_drewN hbl.out nq
                    go_roundw
                    case rel => exact ⟨k + 1, by omega, by go_num, hb3⟩
                    case measure => simp [intOf]; omega
                  · have hd3 : decide ((k : Int) < x2) = false := by simp; omega
                    have HBZ := hidden (HB9.out.trans (hbl.out.mono HB9.out.size))
                    go_wp2_with fail
                    go_ret
                    exact ⟨rfl, HBZ.out⟩
              · have h1b : (x1 == 1) = false := by simpa using h1
                go_wp2_with fail
                refine wp_loop_rounds 1 ?_
                rw [rounds_succ]
                go_wp2_with fail
                go_ret
                exact ⟨rfl, HB9.out⟩

end Go.Proofs.Ytophhgbkcdeidaa
