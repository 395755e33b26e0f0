
/-
  The law ComposeCounts answers true at whatever steps, and leaves what lay in memory as it was.
-/
import Derived.Test.YtcdjemheokmglabCLaw
namespace Go.Proofs.Ytcdjemheokmglab
open Go.RowKit Go.Proofs.Ytcdjemheokmglab.Ln Go.Proofs.Ytcdjemheokmglab.Ol

theorem chs_le (l : List Oq) : chs l ≤ l.length := List.length_filter_le _ _

set_option maxRecDepth 3000 in
set_option maxHeartbeats 8000000 in
theorem composeCounts_any (vX : Value) (p : List Oq) (vY : Value) (q : List Oq) (w : World) (hX : OpsAt w vX p) (hlX : p.length ≤ 4398046511104) (hfX : Fit p) (hY : OpsAt w vY q) (hlY : q.length ≤ 4398046511104) (hfY : Fit q) :
    Calls Try.prog 3 #[vX, vY] w fun e w' => e = .returned (.bool true) ∧ Below w.heap.size w w' := by
  have HX0 := hidden hX
  have HY0 := hidden hY
  have HB0 := hidden (Below.refl w.heap.size w)
  have HFX := hidden hfX
  obtain ⟨aX, cX, rfl⟩ := hX.shape
  clear hX hfX
  have HFY := hidden hfY
  obtain ⟨aY, cY, rfl⟩ := hY.shape
  clear hY hfY
  go_enter Try.func3, Try.ntmps3
  go_wp2_with fail
  refine (alive11_any _).mono ?_
  rintro e w1 ⟨rfl, hb⟩
  have HX1 := hidden (HX0.out.later hb)
  have HY1 := hidden (HY0.out.later hb)
  have HB1 := hidden (HB0.out.trans (hb.mono HB0.out.size))
  clear hb
  go_wp2_with fail
  refine (few_any _ p w1 HX1.out (by omega)).mono ?_
  rintro e w' ⟨⟨c, rfl⟩, hw⟩
  subst w'
  cases c with
  | false =>
    go_wp2_with fail
    go_ret
    exact ⟨rfl, HB1.out⟩
  | true =>
    go_wp2_with fail
    refine (few_any _ q w1 HY1.out (by omega)).mono ?_
    rintro e w' ⟨⟨c, rfl⟩, hw⟩
    subst w'
    cases c with
    | false =>
      go_wp2_with fail
      go_ret
      exact ⟨rfl, HB1.out⟩
    | true =>
      cases hrtX : right p with
      | false =>
        have HRX := hidden hrtX
        clear hrtX
        go_wp2_with fail
        refine (pright_any _ p w1 HX1.out (by omega) HFX.out).mono ?_
        rw [HRX.out]
        rintro e w2 ⟨rfl, hb⟩
        have HX2 := hidden (HX1.out.later hb)
        have HY2 := hidden (HY1.out.later hb)
        have HB2 := hidden (HB1.out.trans (hb.mono HB1.out.size))
        clear hb
        clear HX1 HY1 HB1
        go_wp2_with fail
        go_ret
        exact ⟨by first | rfl | simp, HB2.out⟩
      | true =>
        have HRX := hidden hrtX
        clear hrtX
        go_wp2_with fail
        refine (pright_any _ p w1 HX1.out (by omega) HFX.out).mono ?_
        rw [HRX.out]
        rintro e w2 ⟨rfl, hb⟩
        have HX2 := hidden (HX1.out.later hb)
        have HY2 := hidden (HY1.out.later hb)
        have HB2 := hidden (HB1.out.trans (hb.mono HB1.out.size))
        clear hb
        clear HX1 HY1 HB1
        cases hrtY : right q with
        | false =>
          have HRY := hidden hrtY
          clear hrtY
          go_wp2_with fail
          refine (pright_any _ q w2 HY2.out (by omega) HFY.out).mono ?_
          rw [HRY.out]
          rintro e w3 ⟨rfl, hb⟩
          have HX3 := hidden (HX2.out.later hb)
          have HY3 := hidden (HY2.out.later hb)
          have HB3 := hidden (HB2.out.trans (hb.mono HB2.out.size))
          clear hb
          clear HX2 HY2 HB2
          go_wp2_with fail
          go_ret
          exact ⟨by first | rfl | simp, HB3.out⟩
        | true =>
          have HRY := hidden hrtY
          clear hrtY
          go_wp2_with fail
          refine (pright_any _ q w2 HY2.out (by omega) HFY.out).mono ?_
          rw [HRY.out]
          rintro e w3 ⟨rfl, hb⟩
          have HX3 := hidden (HX2.out.later hb)
          have HY3 := hidden (HY2.out.later hb)
          have HB3 := hidden (HB2.out.trans (hb.mono HB2.out.size))
          clear hb
          clear HX2 HY2 HB2
          obtain ⟨r, hr⟩ : ∃ r, thn p q = r := ⟨_, rfl⟩
          have HR := hidden hr
          clear hr
          go_wp2_with fail
          refine (then_any _ _ p q w3 HX3.out HY3.out (by omega) (by omega) HFX.out HFY.out).mono ?_
          rw [HR.out]
          rintro e w4 ⟨q1, rfl, ho, hb⟩
          have HX4 := hidden (HX3.out.later hb)
          have HY4 := hidden (HY3.out.later hb)
          have HB4 := hidden (HB3.out.trans (hb.mono HB3.out.size))
          clear hb
          clear HX3 HY3 HB3
          have HA4 := hidden ho
          clear ho
          cases r with
          | none =>
            obtain ⟨qa, qc, hq⟩ := HA4.out.shape
            simp only [Option.getD_none, List.length_nil] at hq
            subst hq
            simp only [Option.isSome_none]
            go_wp2_with fail
            go_ret
            exact ⟨by first | rfl | simp, HB4.out⟩
          | some l =>
            obtain ⟨qa, qn, qc, rfl⟩ : ∃ a n c, q1 = .slice a n c := by obtain ⟨a, c, e⟩ := HA4.out.shape; exact ⟨_, _, _, e⟩
            rw [show (some l).getD [] = l from rfl] at HA4
            simp only [Option.isSome_some]
            obtain ⟨k1, k2, k3, k4⟩ := thn_counts HR.out
            have hrl := right_parts (thn_right HR.out)
            have hrp := right_parts HRX.out
            have hrq := right_parts HRY.out
            have HLL := hidden (show l.length ≤ 4398046511104 by have := thn_len HR.out; omega)
            obtain ⟨p3, hp3⟩ : ∃ z, tot 3 p = z := ⟨_, rfl⟩
            obtain ⟨p4, hp4⟩ : ∃ z, tot 4 p = z := ⟨_, rfl⟩
            obtain ⟨q3, hq3⟩ : ∃ z, tot 3 q = z := ⟨_, rfl⟩
            obtain ⟨q4, hq4⟩ : ∃ z, tot 4 q = z := ⟨_, rfl⟩
            obtain ⟨l3, hl3⟩ : ∃ z, tot 3 l = z := ⟨_, rfl⟩
            obtain ⟨l4, hl4⟩ : ∃ z, tot 4 l = z := ⟨_, rfl⟩
            have n1 := tot_pos 3 p
            have n2 := tot_pos 4 p
            have n3 := tot_pos 3 q
            have n4 := tot_pos 4 q
            have n5 := tot_pos 3 l
            have n6 := tot_pos 4 l
            have g1 := hrp.2.2.2.1
            have g2 := hrp.2.2.2.2
            have g3 := hrq.2.2.2.1
            have g4 := hrq.2.2.2.2
            have g5 := hrl.2.2.2.1
            have g6 := hrl.2.2.2.2
            have H1 := hidden (show cnt 3 p = p3 by rw [cnt_is 3 p g1]; exact hp3)
            have H2 := hidden (show cnt 4 p = p4 by rw [cnt_is 4 p g2]; exact hp4)
            have H3 := hidden (show cnt 3 q = q3 by rw [cnt_is 3 q g3]; exact hq3)
            have H4 := hidden (show cnt 4 q = q4 by rw [cnt_is 4 q g4]; exact hq4)
            have H5 := hidden (show cnt 3 l = l3 by rw [cnt_is 3 l g5]; exact hl3)
            have H6 := hidden (show cnt 4 l = l4 by rw [cnt_is 4 l g6]; exact hl4)
            have s1 := chs_le p
            have s2 := chs_le q
            have s3 := chs_le l
            have hpL := right_len HRX.out
            have hqL := right_len HRY.out
            have hlL := right_len (thn_right HR.out)
            obtain ⟨cp, hcp⟩ : ∃ z, chs p = z := ⟨_, rfl⟩
            obtain ⟨cq, hcq⟩ : ∃ z, chs q = z := ⟨_, rfl⟩
            obtain ⟨cl, hcl⟩ : ∃ z, chs l = z := ⟨_, rfl⟩
            rw [hp3, hp4, hq3, hq4, hl3, hl4] at k4
            rw [hp3, hl3] at k1
            rw [hq4, hl4] at k2
            rw [hcp, hcq, hcl] at k3
            rw [hp3] at n1 g1
            rw [hp4] at n2 g2
            rw [hq3] at n3 g3
            rw [hq4] at n4 g4
            rw [hl3] at n5 g5
            rw [hl4] at n6 g6
            rw [hcp] at s1
            rw [hcq] at s2
            rw [hcl] at s3
            have HCP := hidden hcp
            have HCQ := hidden hcq
            have HCL := hidden hcl
            have b1 : cp ≤ 4294967296 := by omega
            have b2 : cq ≤ 4294967296 := by omega
            have b3 : cl ≤ 4294967296 := by omega
            have f1 : decide ((cl : Int) ≤ (cp : Int) + cq) = true := by simp; omega
            have f2 : (l4 - l3 == p4 - p3 + q4 - q3) = true := by simp; omega
            have f3 : decide (l3 ≥ p3) = true := by simp; omega
            have f4 : decide (l4 ≥ q4) = true := by simp; omega
            have f5 : decide (p3 ≤ l3) = true := by simp; omega
            have f6 : decide (q4 ≤ l4) = true := by simp; omega
            clear hrl hrp hrq hp3 hp4 hq3 hq4 hl3 hl4 hcp hcq hcl hpL hqL hlL s1 s2 s3 k3
            go_wp2_with fail
            refine (pnews_any _ p w4 HX4.out (by omega)).mono ?_
            rw [H2.out]
            rintro e w5 ⟨rfl, hb⟩
            have HX5 := hidden (HX4.out.later hb)
            have HY5 := hidden (HY4.out.later hb)
            have HA5 := hidden (HA4.out.later hb)
            have HB5 := hidden (HB4.out.trans (hb.mono HB4.out.size))
            clear hb
            clear HX4 HY4 HA4 HB4
            go_wp2_with fail
            refine (polds_any _ p w5 HX5.out (by omega)).mono ?_
            rw [H1.out]
            rintro e w6 ⟨rfl, hb⟩
            have HX6 := hidden (HX5.out.later hb)
            have HY6 := hidden (HY5.out.later hb)
            have HA6 := hidden (HA5.out.later hb)
            have HB6 := hidden (HB5.out.trans (hb.mono HB5.out.size))
            clear hb
            clear HX5 HY5 HA5 HB5
            go_wp2_with fail
            refine (pnews_any _ q w6 HY6.out (by omega)).mono ?_
            rw [H4.out]
            rintro e w7 ⟨rfl, hb⟩
            have HX7 := hidden (HX6.out.later hb)
            have HY7 := hidden (HY6.out.later hb)
            have HA7 := hidden (HA6.out.later hb)
            have HB7 := hidden (HB6.out.trans (hb.mono HB6.out.size))
            clear hb
            clear HX6 HY6 HA6 HB6
            go_wp2_with fail
            refine (polds_any _ q w7 HY7.out (by omega)).mono ?_
            rw [H3.out]
            rintro e w8 ⟨rfl, hb⟩
            have HX8 := hidden (HX7.out.later hb)
            have HY8 := hidden (HY7.out.later hb)
            have HA8 := hidden (HA7.out.later hb)
            have HB8 := hidden (HB7.out.trans (hb.mono HB7.out.size))
            clear hb
            clear HX7 HY7 HA7 HB7
            go_wp2_with fail
            refine (pchanges_any _ l w8 HA8.out HLL.out).mono ?_
            rw [HCL.out]
            rintro e w9 ⟨rfl, hb⟩
            have HX9 := hidden (HX8.out.later hb)
            have HY9 := hidden (HY8.out.later hb)
            have HA9 := hidden (HA8.out.later hb)
            have HB9 := hidden (HB8.out.trans (hb.mono HB8.out.size))
            clear hb
            clear HX8 HY8 HA8 HB8
            go_wp2_with fail
            refine (pchanges_any _ p w9 HX9.out (by omega)).mono ?_
            rw [HCP.out]
            rintro e w10 ⟨rfl, hb⟩
            have HX10 := hidden (HX9.out.later hb)
            have HY10 := hidden (HY9.out.later hb)
            have HA10 := hidden (HA9.out.later hb)
            have HB10 := hidden (HB9.out.trans (hb.mono HB9.out.size))
            clear hb
            clear HX9 HY9 HA9 HB9
            go_wp2_with fail
            refine (pchanges_any _ q w10 HY10.out (by omega)).mono ?_
            rw [HCQ.out]
            rintro e w11 ⟨rfl, hb⟩
            have HX11 := hidden (HX10.out.later hb)
            have HY11 := hidden (HY10.out.later hb)
            have HA11 := hidden (HA10.out.later hb)
            have HB11 := hidden (HB10.out.trans (hb.mono HB10.out.size))
            clear hb
            clear HX10 HY10 HA10 HB10
            go_wp2_with fail
            refine (pnews_any _ l w11 HA11.out HLL.out).mono ?_
            rw [H6.out]
            rintro e w12 ⟨rfl, hb⟩
            have HX12 := hidden (HX11.out.later hb)
            have HY12 := hidden (HY11.out.later hb)
            have HA12 := hidden (HA11.out.later hb)
            have HB12 := hidden (HB11.out.trans (hb.mono HB11.out.size))
            clear hb
            clear HX11 HY11 HA11 HB11
            go_wp2_with fail
            refine (polds_any _ l w12 HA12.out HLL.out).mono ?_
            rw [H5.out]
            rintro e w13 ⟨rfl, hb⟩
            have HX13 := hidden (HX12.out.later hb)
            have HY13 := hidden (HY12.out.later hb)
            have HA13 := hidden (HA12.out.later hb)
            have HB13 := hidden (HB12.out.trans (hb.mono HB12.out.size))
            clear hb
            clear HX12 HY12 HA12 HB12
            go_wp2_with fail
            refine (polds_any _ l w13 HA13.out HLL.out).mono ?_
            rw [H5.out]
            rintro e w14 ⟨rfl, hb⟩
            have HX14 := hidden (HX13.out.later hb)
            have HY14 := hidden (HY13.out.later hb)
            have HA14 := hidden (HA13.out.later hb)
            have HB14 := hidden (HB13.out.trans (hb.mono HB13.out.size))
            clear hb
            clear HX13 HY13 HA13 HB13
            go_wp2_with fail
            refine (polds_any _ p w14 HX14.out (by omega)).mono ?_
            rw [H1.out]
            rintro e w15 ⟨rfl, hb⟩
            have HX15 := hidden (HX14.out.later hb)
            have HY15 := hidden (HY14.out.later hb)
            have HA15 := hidden (HA14.out.later hb)
            have HB15 := hidden (HB14.out.trans (hb.mono HB14.out.size))
            clear hb
            clear HX14 HY14 HA14 HB14
            go_wp2_with fail
            refine (pnews_any _ l w15 HA15.out HLL.out).mono ?_
            rw [H6.out]
            rintro e w16 ⟨rfl, hb⟩
            have HX16 := hidden (HX15.out.later hb)
            have HY16 := hidden (HY15.out.later hb)
            have HA16 := hidden (HA15.out.later hb)
            have HB16 := hidden (HB15.out.trans (hb.mono HB15.out.size))
            clear hb
            clear HX15 HY15 HA15 HB15
            go_wp2_with fail
            refine (pnews_any _ q w16 HY16.out (by omega)).mono ?_
            rw [H4.out]
            rintro e w17 ⟨rfl, hb⟩
            have HX17 := hidden (HX16.out.later hb)
            have HY17 := hidden (HY16.out.later hb)
            have HA17 := hidden (HA16.out.later hb)
            have HB17 := hidden (HB16.out.trans (hb.mono HB16.out.size))
            clear hb
            clear HX16 HY16 HA16 HB16
            go_wp2_with fail
            go_ret
            exact ⟨by first | rfl | simp, HB17.out⟩

end Go.Proofs.Ytcdjemheokmglab
