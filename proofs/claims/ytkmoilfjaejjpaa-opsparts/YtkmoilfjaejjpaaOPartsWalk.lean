/-
  The law OpsParts answers true at whatever two lists of steps, and leaves what lay in memory as it was.
-/
import Derived.Test.YtkmoilfjaejjpaaOLaw
import Derived.Test.YtkmoilfjaejjpaaOFacts
namespace Go.Proofs.Ytkmoilfjaejjpaa
open Go.RowKit Go.Proofs.Ytkmoilfjaejjpaa.Ln Go.Proofs.Ytkmoilfjaejjpaa.Ol

set_option maxRecDepth 3000 in
set_option maxHeartbeats 8000000 in
theorem opsParts_any (v : Value) (xs : List Oq) (u : Value) (ys : List Oq) (w : World) (hX : OpsAt w v xs) (hlx : xs.length ≤ 4398046511104) (hfX : Fit xs) (hY : OpsAt w u ys) (hly : ys.length ≤ 4398046511104) (hfY : Fit ys) :
    Calls Try.prog 7 #[v, u] w fun e w' => e = .returned (.bool true) ∧ Below w.heap.size w w' := by
  have HX0 := hidden hX
  have HY0 := hidden hY
  have HB0 := hidden (Below.refl w.heap.size w)
  have HFX := hidden hfX
  have HFY := hidden hfY
  obtain ⟨ao, cap, rfl⟩ := hX.shape
  obtain ⟨bo, cap2, rfl⟩ := hY.shape
  clear hX hY hfX hfY
  go_enter Try.func7, Try.ntmps7
  go_wp2_with fail
  refine (alive_any _).mono ?_
  rintro e w1 ⟨rfl, hb⟩
  have HX1 := hidden (HX0.out.later hb)
  have HY1 := hidden (HY0.out.later hb)
  have HB1 := hidden (HB0.out.trans (hb.mono HB0.out.size))
  clear hb
  go_wp2_with fail
  refine (few_any _ xs w1 HX1.out hlx).mono ?_
  rintro e w' ⟨⟨c, rfl⟩, hw⟩
  subst w'
  cases c with
  | false =>
    go_wp2_with fail
    go_ret
    exact ⟨rfl, HB1.out⟩
  | true =>
    go_wp2_with fail
    refine (few_any _ ys w1 HY1.out hly).mono ?_
    rintro e w' ⟨⟨c, rfl⟩, hw⟩
    subst w'
    cases c with
    | false =>
      go_wp2_with fail
      go_ret
      exact ⟨rfl, HB1.out⟩
    | true =>
      cases hrtX : right xs with
      | false =>
        have HRT := hidden hrtX
        clear hrtX
        go_wp2_with fail
        refine (pright_any _ xs w1 HX1.out hlx HFX.out).mono ?_
        rw [HRT.out]
        rintro e w2 ⟨rfl, hb⟩
        have HX2 := hidden (HX1.out.later hb)
        have HY2 := hidden (HY1.out.later hb)
        have HB2 := hidden (HB1.out.trans (hb.mono HB1.out.size))
        clear hb
        clear HX1 HY1 HB1
        go_wp2_with fail
        go_ret
        exact ⟨rfl, HB2.out⟩
      | true =>
        have HRTX := hidden hrtX
        clear hrtX
        go_wp2_with fail
        refine (pright_any _ xs w1 HX1.out hlx HFX.out).mono ?_
        rw [HRTX.out]
        rintro e w2 ⟨rfl, hb⟩
        have HX2 := hidden (HX1.out.later hb)
        have HY2 := hidden (HY1.out.later hb)
        have HB2 := hidden (HB1.out.trans (hb.mono HB1.out.size))
        clear hb
        clear HX1 HY1 HB1
        cases hrtY : right ys with
        | false =>
          have HRT := hidden hrtY
          clear hrtY
          go_wp2_with fail
          refine (pright_any _ ys w2 HY2.out hly HFY.out).mono ?_
          rw [HRT.out]
          rintro e w3 ⟨rfl, hb⟩
          have HX3 := hidden (HX2.out.later hb)
          have HY3 := hidden (HY2.out.later hb)
          have HB3 := hidden (HB2.out.trans (hb.mono HB2.out.size))
          clear hb
          clear HX2 HY2 HB2
          go_wp2_with fail
          go_ret
          exact ⟨rfl, HB3.out⟩
        | true =>
          have HRTY := hidden hrtY
          clear hrtY
          go_wp2_with fail
          refine (pright_any _ ys w2 HY2.out hly HFY.out).mono ?_
          rw [HRTY.out]
          rintro e w3 ⟨rfl, hb⟩
          have HX3 := hidden (HX2.out.later hb)
          have HY3 := hidden (HY2.out.later hb)
          have HB3 := hidden (HB2.out.trans (hb.mono HB2.out.size))
          clear hb
          clear HX2 HY2 HB2
          obtain ⟨e3, e4, b1, b2, b3, b4⟩ := cnt_parts HRTX.out HRTY.out
          have b5 := cnt_pos 3 xs
          have b6 := cnt_pos 3 ys
          have b7 := cnt_pos 4 xs
          have b8 := cnt_pos 4 ys
          have hl1 := len_right HRTX.out
          have hl2 := len_right HRTY.out
          have e5 : ((chs (xs ++ ys) : Nat) : Int) = (chs xs : Nat) + (chs ys : Nat) := by rw [chs_app]; omega
          have b9 := chs_all xs
          have b10 := chs_all ys
          have HE3 := hidden e3
          have HE4 := hidden e4
          have HE5 := hidden e5
          have HCR := hidden (fun h : right (xs ++ ys) = true => cnt_right h)
          have hlz : (xs ++ ys).length ≤ 4398046511104 := by rw [List.length_append]; omega
          have HFZ := hidden (show Fit (xs ++ ys) from fun x hx => by rcases List.mem_append.1 hx with h | h; (· exact HFX.out x h); exact HFY.out x h)
          have hsz := HB3.out.size
          clear e3 e4 e5
          obtain ⟨p3, h3x⟩ : ∃ r, cnt 3 xs = r := ⟨_, rfl⟩
          obtain ⟨r3, h3y⟩ : ∃ r, cnt 3 ys = r := ⟨_, rfl⟩
          obtain ⟨p4, h4x⟩ : ∃ r, cnt 4 xs = r := ⟨_, rfl⟩
          obtain ⟨r4, h4y⟩ : ∃ r, cnt 4 ys = r := ⟨_, rfl⟩
          obtain ⟨pc, hcx⟩ : ∃ r : Int, ((chs xs : Nat) : Int) = r := ⟨_, rfl⟩
          obtain ⟨rc, hcy⟩ : ∃ r : Int, ((chs ys : Nat) : Int) = r := ⟨_, rfl⟩
          rw [h3x] at HE3 b1 b5
          rw [h3y] at HE3 b2 b6
          rw [h4x] at HE4 b3 b7
          rw [h4y] at HE4 b4 b8
          rw [hcx, hcy] at HE5
          have c1 : 0 ≤ pc ∧ pc ≤ 4294967296 := by omega
          have c2 : 0 ≤ rc ∧ rc ≤ 4294967296 := by omega
          rw [HE3.out] at HCR
          have H3x := hidden h3x
          have H3y := hidden h3y
          have H4x := hidden h4x
          have H4y := hidden h4y
          have Hcx := hidden hcx
          have Hcy := hidden hcy
          clear h3x h3y h4x h4y hcx hcy b9 b10
          have wr1 : wrap64 (p3 + r3) = p3 + r3 := by unfold wrap64; omega
          have wr2 : wrap64 (p4 + r4) = p4 + r4 := by unfold wrap64; omega
          have wr3 : wrap64 (pc + rc) = pc + rc := by unfold wrap64; omega
          go_wp2_with (at_builtin; first | (refine wpList_append_ops _ (by go_simp) _ (.tmp 31) rfl w.heap.size (.slice none 0 0) _ [] xs rfl rfl ⟨rfl, Or.inl ⟨rfl, rfl⟩⟩ HX3.out (by simp; omega) hsz ?_; intro v9 w9 hown9 hadd9; have hb9 : Below w3.heap.size w3 w9 := ⟨hadd9.1.os, hadd9.1.tape, hadd9.1.output, hadd9.1.size, fun j hj => hadd9.1.block j hj (fun e => by cases e)⟩) | (refine wpList_append_ops _ (by go_simp) _ (.tmp 33) rfl w.heap.size v9 _ ([] ++ xs) ys rfl rfl hown9 (HY3.out.later hb9) (by simp; omega) (Nat.le_trans hsz hb9.size) ?_; intro v10 w10 hown10 hadd10))
          have hb10 : Below w3.heap.size w3 w10 := hb9.trans ⟨hadd10.1.os, hadd10.1.tape, hadd10.1.output, hadd10.1.size, fun j hj => hadd10.1.block j (Nat.lt_of_lt_of_le hj hb9.size) (fun e => by rcases hadd9.2 with e2 | ⟨q, e2, hq⟩; (· rw [e2] at e; cases e); rw [e2] at e; cases e; omega)⟩
          have HZ4 := hidden (OpsAt.of_owns hown10)
          rw [List.nil_append] at HZ4
          have hb := hb10
          clear hown10 hadd10 hown9 hadd9 hb9 hb10
          have HX4 := hidden (HX3.out.later hb)
          have HY4 := hidden (HY3.out.later hb)
          have HB4 := hidden (HB3.out.trans (hb.mono HB3.out.size))
          clear hb hsz
          refine (oolds_any _ (xs ++ ys) w10 HZ4.out hlz).mono ?_
          rw [HE3.out]
          rintro e w5 ⟨rfl, hb⟩
          have HX5 := hidden (HX4.out.later hb)
          have HY5 := hidden (HY4.out.later hb)
          have HZ5 := hidden (HZ4.out.later hb)
          have HB5 := hidden (HB4.out.trans (hb.mono HB4.out.size))
          clear hb
          clear HX4 HY4 HZ4 HB4
          go_wp2_with fail
          refine (oolds_any _ xs w5 HX5.out hlx).mono ?_
          rw [H3x.out]
          rintro e w6 ⟨rfl, hb⟩
          have HX6 := hidden (HX5.out.later hb)
          have HY6 := hidden (HY5.out.later hb)
          have HZ6 := hidden (HZ5.out.later hb)
          have HB6 := hidden (HB5.out.trans (hb.mono HB5.out.size))
          clear hb
          clear HX5 HY5 HZ5 HB5
          go_wp2_with fail
          refine (oolds_any _ ys w6 HY6.out hly).mono ?_
          rw [H3y.out]
          rintro e w7 ⟨rfl, hb⟩
          have HX7 := hidden (HX6.out.later hb)
          have HY7 := hidden (HY6.out.later hb)
          have HZ7 := hidden (HZ6.out.later hb)
          have HB7 := hidden (HB6.out.trans (hb.mono HB6.out.size))
          clear hb
          clear HX6 HY6 HZ6 HB6
          go_wp2_with fail
          refine (onews_any _ (xs ++ ys) w7 HZ7.out hlz).mono ?_
          rw [HE4.out]
          rintro e w8 ⟨rfl, hb⟩
          have HX8 := hidden (HX7.out.later hb)
          have HY8 := hidden (HY7.out.later hb)
          have HZ8 := hidden (HZ7.out.later hb)
          have HB8 := hidden (HB7.out.trans (hb.mono HB7.out.size))
          clear hb
          clear HX7 HY7 HZ7 HB7
          go_wp2_with fail
          refine (onews_any _ xs w8 HX8.out hlx).mono ?_
          rw [H4x.out]
          rintro e w9 ⟨rfl, hb⟩
          have HX9 := hidden (HX8.out.later hb)
          have HY9 := hidden (HY8.out.later hb)
          have HZ9 := hidden (HZ8.out.later hb)
          have HB9 := hidden (HB8.out.trans (hb.mono HB8.out.size))
          clear hb
          clear HX8 HY8 HZ8 HB8
          go_wp2_with fail
          refine (onews_any _ ys w9 HY9.out hly).mono ?_
          rw [H4y.out]
          rintro e w10 ⟨rfl, hb⟩
          have HX10 := hidden (HX9.out.later hb)
          have HY10 := hidden (HY9.out.later hb)
          have HZ10 := hidden (HZ9.out.later hb)
          have HB10 := hidden (HB9.out.trans (hb.mono HB9.out.size))
          clear hb
          clear HX9 HY9 HZ9 HB9
          go_wp2_with fail
          refine (ochanges_any _ (xs ++ ys) w10 HZ10.out hlz).mono ?_
          rw [HE5.out]
          rintro e w11 ⟨rfl, hb⟩
          have HX11 := hidden (HX10.out.later hb)
          have HY11 := hidden (HY10.out.later hb)
          have HZ11 := hidden (HZ10.out.later hb)
          have HB11 := hidden (HB10.out.trans (hb.mono HB10.out.size))
          clear hb
          clear HX10 HY10 HZ10 HB10
          go_wp2_with fail
          refine (ochanges_any _ xs w11 HX11.out hlx).mono ?_
          rw [Hcx.out]
          rintro e w12 ⟨rfl, hb⟩
          have HX12 := hidden (HX11.out.later hb)
          have HY12 := hidden (HY11.out.later hb)
          have HZ12 := hidden (HZ11.out.later hb)
          have HB12 := hidden (HB11.out.trans (hb.mono HB11.out.size))
          clear hb
          clear HX11 HY11 HZ11 HB11
          go_wp2_with fail
          refine (ochanges_any _ ys w12 HY12.out hly).mono ?_
          rw [Hcy.out]
          rintro e w13 ⟨rfl, hb⟩
          have HX13 := hidden (HX12.out.later hb)
          have HY13 := hidden (HY12.out.later hb)
          have HZ13 := hidden (HZ12.out.later hb)
          have HB13 := hidden (HB12.out.trans (hb.mono HB12.out.size))
          clear hb
          clear HX12 HY12 HZ12 HB12
          cases hrz : right (xs ++ ys) with
          | false =>
            have HRT := hidden hrz
            clear hrz
            go_wp2_with fail
            refine (oright_any _ (xs ++ ys) w13 HZ13.out hlz HFZ.out).mono ?_
            rw [HRT.out]
            rintro e w14 ⟨rfl, hb⟩
            have HX14 := hidden (HX13.out.later hb)
            have HY14 := hidden (HY13.out.later hb)
            have HZ14 := hidden (HZ13.out.later hb)
            have HB14 := hidden (HB13.out.trans (hb.mono HB13.out.size))
            clear hb
            clear HX13 HY13 HZ13 HB13
            go_wp2_with fail
            go_ret
            exact ⟨rfl, HB14.out⟩
          | true =>
            have HRT := hidden hrz
            have hcr := HCR.out hrz
            clear hrz
            go_wp2_with fail
            refine (oright_any _ (xs ++ ys) w13 HZ13.out hlz HFZ.out).mono ?_
            rw [HRT.out]
            rintro e w14 ⟨rfl, hb⟩
            have HX14 := hidden (HX13.out.later hb)
            have HY14 := hidden (HY13.out.later hb)
            have HZ14 := hidden (HZ13.out.later hb)
            have HB14 := hidden (HB13.out.trans (hb.mono HB13.out.size))
            clear hb
            clear HX13 HY13 HZ13 HB13
            by_cases h0 : xs.length = 0
            · have h0i : ((xs.length : Nat) : Int) = 0 := by omega
              have h0b : (((xs.length : Nat) : Int) == 0) = true := by simpa using h0
              go_wp2_with fail
              go_ret
              exact ⟨by first | rfl | simp, HB14.out⟩
            · have h0i : ¬ ((xs.length : Nat) : Int) = 0 := by omega
              have h0b : (((xs.length : Nat) : Int) == 0) = false := by simpa using h0
              by_cases h1 : ys.length = 0
              · have h1i : ((ys.length : Nat) : Int) = 0 := by omega
                have h1b : (((ys.length : Nat) : Int) == 0) = true := by simpa using h1
                go_wp2_with fail
                go_ret
                exact ⟨by first | rfl | simp, HB14.out⟩
              · have h1i : ¬ ((ys.length : Nat) : Int) = 0 := by omega
                have h1b : (((ys.length : Nat) : Int) == 0) = false := by simpa using h1
                go_wp2_with fail
                refine (oolds_any _ (xs ++ ys) w14 HZ14.out hlz).mono ?_
                rw [HE3.out]
                rintro e w15 ⟨rfl, hb⟩
                have HX15 := hidden (HX14.out.later hb)
                have HY15 := hidden (HY14.out.later hb)
                have HZ15 := hidden (HZ14.out.later hb)
                have HB15 := hidden (HB14.out.trans (hb.mono HB14.out.size))
                clear hb
                clear HX14 HY14 HZ14 HB14
                go_wp2_with fail
                go_ret
                exact ⟨by first | rfl | simp [hcr] | (simp; omega), HB15.out⟩

end Go.Proofs.Ytkmoilfjaejjpaa
