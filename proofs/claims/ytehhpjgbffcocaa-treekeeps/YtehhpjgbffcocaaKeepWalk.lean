/-
  The law TreeKeeps, called with any tree that lies in memory and any three texts, returns true, and nothing of what was in memory has turned; condition: no text is longer than the library's Clone takes.
-/
import Derived.Test.YtehhpjgbffcocaaTellWalk
namespace Go.Proofs.Ytehhpjgbffcocaa
open Go.RowKit Go.Proofs.Ytehhpjgbffcocaa.Tr


set_option maxHeartbeats 4000000 in
set_option maxRecDepth 3000 in
theorem treeKeeps_same (v : Value) (xs : List En) (n d : Tx) (w : World) (hr : TreeAt w v xs) (hl : xs.length ≤ 60) (hf : Fit xs) (hn : n.length ≤ 281474976710656) (hd : d.length ≤ 281474976710656) (hne : n ≠ []) (hok : Ok xs) :
    Calls Try.prog 4 #[v, .string ⟨n.toArray⟩, .string ⟨d.toArray⟩, .string ⟨n.toArray⟩] w fun e w' => e = .returned (.bool true) ∧ Below w.heap.size w w' := by
  obtain ⟨G, hG⟩ : ∃ G, (getL n xs).getD [] = G := ⟨_, rfl⟩
  obtain ⟨bb, hbb⟩ : ∃ b, (getL n xs).isSome = b := ⟨_, rfl⟩
  obtain ⟨X, hX⟩ : ∃ X, putL n d xs = X := ⟨_, rfl⟩
  obtain ⟨Y, hY⟩ : ∃ Y, cutL n xs = Y := ⟨_, rfl⟩
  obtain ⟨ao, cap, rfl⟩ := hr.shape
  have hb60 : ¬ (60 : Int) < (xs.length : Int) := by omega
  have hnb : (n == []) = false := by simpa using hne
  have HG := hidden hG
  have HBB := hidden hbb
  have HX := hidden hX
  have HY := hidden hY
  have HR := hidden ((right_ok xs).2 hok)
  have HRX := hidden (show right [] X = true from by rw [← hX]; exact (right_ok _).2 (put_ok hne hok))
  have HRY := hidden (show right [] Y = true from by rw [← hY]; exact (right_ok _).2 (cut_ok hok))
  have HFX := hidden (show Fit X from by rw [← hX]; exact hf.put hn hd)
  have HFY := hidden (show Fit Y from by rw [← hY]; exact hf.cut)
  have HXY := hidden (show cutL n X = Y from by rw [← hX, ← hY]; exact cut_put n d xs)
  have HGX := hidden (show getL n X = some d from by rw [← hX]; exact get_put n d xs)
  have HGY := hidden (show getL n Y = none from by rw [← hY]; exact get_cut hok.2)
  have hlX : X.length ≤ 61 := by rw [← hX]; have := put_len n d xs; omega
  have hlY : Y.length ≤ 60 := by rw [← hY]; have := cut_len n xs; omega
  have HF := hidden hf
  have HT0 := hidden hr
  clear hr hf hG hbb hX hY hok hne
  go_enter Try.func4, Try.ntmps4
  go_wp2_with fail
  refine (alive_any _).mono ?_
  rintro e w1 ⟨rfl, hb1⟩
  have H1 := hidden hb1
  clear hb1
  go_wp2_with fail
  refine (refRight_any _ xs w1 (HT0.out.later H1.out) (by omega)).mono ?_
  rintro e w2 ⟨rfl, hb2⟩
  have H2 := hidden (H1.out.trans (hb2.mono H1.out.size))
  clear hb2 H1
  rw [HR.out]
  go_wp2_with fail
  refine (put_any _ xs n d w2 (HT0.out.later H2.out) (by omega) HF.out hn hd).mono ?_
  rintro e w3 ⟨⟨vx, rfl, htx⟩, hb3⟩
  rw [HX.out] at htx
  have H3 := hidden (H2.out.trans (hb3.mono H2.out.size))
  have TX3 := hidden htx
  clear hb3 htx H2
  go_wp2_with fail
  refine (cut_any vx X n w3 TX3.out (by omega) HFX.out).mono ?_
  rintro e w4 ⟨⟨vy, rfl, hty⟩, hb4⟩
  rw [HXY.out] at hty
  have H4 := hidden (H3.out.trans (hb4.mono H3.out.size))
  have TX4 := hidden (TX3.out.later hb4)
  have TY4 := hidden hty
  clear hb4 hty H3 TX3
  go_wp2_with fail
  refine (get_parts vx X n w4 TX4.out (by omega) HFX.out d true (by rw [HGX.out]; rfl) (by rw [HGX.out]; rfl)).mono ?_
  rintro e w5 ⟨rfl, hb5⟩
  have H5 := hidden (H4.out.trans (hb5.mono H4.out.size))
  have TX5 := hidden (TX4.out.later hb5)
  have TY5 := hidden (TY4.out.later hb5)
  clear hb5 H4 TX4 TY4
  go_wp2_with fail
  refine (get_parts vy Y n w5 TY5.out (by omega) HFY.out [] false (by rw [HGY.out]; rfl) (by rw [HGY.out]; rfl)).mono ?_
  rintro e w6 ⟨rfl, hb6⟩
  have H6 := hidden (H5.out.trans (hb6.mono H5.out.size))
  have TX6 := hidden (TX5.out.later hb6)
  have TY6 := hidden (TY5.out.later hb6)
  clear hb6 H5 TX5 TY5
  go_wp2_with fail
  refine (get_parts _ xs n w6 (HT0.out.later H6.out) (by omega) HF.out G bb HG.out HBB.out).mono ?_
  rintro e w7 ⟨rfl, hb7⟩
  have H7 := hidden (H6.out.trans (hb7.mono H6.out.size))
  have TX7 := hidden (TX6.out.later hb7)
  have TY7 := hidden (TY6.out.later hb7)
  clear hb7 H6 TX6 TY6
  go_wp2_with fail
  refine (get_parts vx X n w7 TX7.out (by omega) HFX.out d true (by rw [HGX.out]; rfl) (by rw [HGX.out]; rfl)).mono ?_
  rintro e w8 ⟨rfl, hb8⟩
  have H8 := hidden (H7.out.trans (hb8.mono H7.out.size))
  have TX8 := hidden (TX7.out.later hb8)
  have TY8 := hidden (TY7.out.later hb8)
  clear hb8 H7 TX7 TY7
  go_wp2_with fail
  refine (get_parts vy Y n w8 TY8.out (by omega) HFY.out [] false (by rw [HGY.out]; rfl) (by rw [HGY.out]; rfl)).mono ?_
  rintro e w9 ⟨rfl, hb9⟩
  have H9 := hidden (H8.out.trans (hb9.mono H8.out.size))
  have TX9 := hidden (TX8.out.later hb9)
  have TY9 := hidden (TY8.out.later hb9)
  clear hb9 H8 TX8 TY8
  go_wp2_with fail
  refine (right_any vx X w9 TX9.out (by omega)).mono ?_
  rintro e w10 ⟨rfl, hb10⟩
  have H10 := hidden (H9.out.trans (hb10.mono H9.out.size))
  have TY10 := hidden (TY9.out.later hb10)
  clear hb10 H9 TX9 TY9
  rw [HRX.out]
  go_wp2_with fail
  refine (right_any vy Y w10 TY10.out (by omega)).mono ?_
  rintro e w11 ⟨rfl, hb11⟩
  have H11 := hidden (H10.out.trans (hb11.mono H10.out.size))
  have TY11 := hidden (TY10.out.later hb11)
  clear hb11 H10 TY10
  rw [HRY.out]
  go_wp2_with fail
  refine (cut_any _ xs n w11 (HT0.out.later H11.out) (by omega) HF.out).mono ?_
  rintro e w12 ⟨⟨vz, rfl, htz⟩, hb12⟩
  rw [HY.out] at htz
  have H12 := hidden (H11.out.trans (hb12.mono H11.out.size))
  have TY12 := hidden (TY11.out.later hb12)
  have TZ12 := hidden htz
  clear hb12 htz H11 TY11
  go_wp2_with fail
  refine (same_any vy vz _ _ w12 TY12.out TZ12.out (by omega) (by omega)).mono ?_
  rintro e w13 ⟨rfl, hb13⟩
  have H13 := hidden (H12.out.trans (hb13.mono H12.out.size))
  clear hb13 H12 TY12 TZ12
  rw [decide_eq_true (Eq.refl Y)]
  go_wp2_with fail
  go_ret
  exact ⟨ret_bool (by simp), H13.out⟩

set_option maxHeartbeats 4000000 in
set_option maxRecDepth 3000 in
theorem treeKeeps_other (v : Value) (xs : List En) (n d m : Tx) (w : World) (hr : TreeAt w v xs) (hl : xs.length ≤ 60) (hf : Fit xs) (hn : n.length ≤ 281474976710656) (hd : d.length ≤ 281474976710656) (hne : n ≠ []) (hmn : m ≠ n) (hok : Ok xs) :
    Calls Try.prog 4 #[v, .string ⟨n.toArray⟩, .string ⟨d.toArray⟩, .string ⟨m.toArray⟩] w fun e w' => e = .returned (.bool true) ∧ Below w.heap.size w w' := by
  obtain ⟨G, hG⟩ : ∃ G, (getL m xs).getD [] = G := ⟨_, rfl⟩
  obtain ⟨bb, hbb⟩ : ∃ b, (getL m xs).isSome = b := ⟨_, rfl⟩
  obtain ⟨X, hX⟩ : ∃ X, putL n d xs = X := ⟨_, rfl⟩
  obtain ⟨Y, hY⟩ : ∃ Y, cutL n xs = Y := ⟨_, rfl⟩
  obtain ⟨ao, cap, rfl⟩ := hr.shape
  have hb60 : ¬ (60 : Int) < (xs.length : Int) := by omega
  have hnb : (n == []) = false := by simpa using hne
  have HG := hidden hG
  have HBB := hidden hbb
  have HX := hidden hX
  have HY := hidden hY
  have HR := hidden ((right_ok xs).2 hok)
  have HRX := hidden (show right [] X = true from by rw [← hX]; exact (right_ok _).2 (put_ok hne hok))
  have HRY := hidden (show right [] Y = true from by rw [← hY]; exact (right_ok _).2 (cut_ok hok))
  have HFX := hidden (show Fit X from by rw [← hX]; exact hf.put hn hd)
  have HFY := hidden (show Fit Y from by rw [← hY]; exact hf.cut)
  have HXY := hidden (show cutL n X = Y from by rw [← hX, ← hY]; exact cut_put n d xs)
  have HGX := hidden (show getL n X = some d from by rw [← hX]; exact get_put n d xs)
  have HGY := hidden (show getL n Y = none from by rw [← hY]; exact get_cut hok.2)
  have HMX := hidden (show getL m X = getL m xs from by rw [← hX]; exact get_put_ne d xs hmn)
  have HMY := hidden (show getL m Y = getL m xs from by rw [← hY]; exact get_cut_ne xs hmn)
  have hmb : (m == n) = false := by simpa using hmn
  have hlX : X.length ≤ 61 := by rw [← hX]; have := put_len n d xs; omega
  have hlY : Y.length ≤ 60 := by rw [← hY]; have := cut_len n xs; omega
  have HF := hidden hf
  have HT0 := hidden hr
  clear hr hf hG hbb hX hY hok hne
  go_enter Try.func4, Try.ntmps4
  go_wp2_with fail
  refine (alive_any _).mono ?_
  rintro e w1 ⟨rfl, hb1⟩
  have H1 := hidden hb1
  clear hb1
  go_wp2_with fail
  refine (refRight_any _ xs w1 (HT0.out.later H1.out) (by omega)).mono ?_
  rintro e w2 ⟨rfl, hb2⟩
  have H2 := hidden (H1.out.trans (hb2.mono H1.out.size))
  clear hb2 H1
  rw [HR.out]
  go_wp2_with fail
  refine (put_any _ xs n d w2 (HT0.out.later H2.out) (by omega) HF.out hn hd).mono ?_
  rintro e w3 ⟨⟨vx, rfl, htx⟩, hb3⟩
  rw [HX.out] at htx
  have H3 := hidden (H2.out.trans (hb3.mono H2.out.size))
  have TX3 := hidden htx
  clear hb3 htx H2
  go_wp2_with fail
  refine (cut_any vx X n w3 TX3.out (by omega) HFX.out).mono ?_
  rintro e w4 ⟨⟨vy, rfl, hty⟩, hb4⟩
  rw [HXY.out] at hty
  have H4 := hidden (H3.out.trans (hb4.mono H3.out.size))
  have TX4 := hidden (TX3.out.later hb4)
  have TY4 := hidden hty
  clear hb4 hty H3 TX3
  go_wp2_with fail
  refine (get_parts vx X n w4 TX4.out (by omega) HFX.out d true (by rw [HGX.out]; rfl) (by rw [HGX.out]; rfl)).mono ?_
  rintro e w5 ⟨rfl, hb5⟩
  have H5 := hidden (H4.out.trans (hb5.mono H4.out.size))
  have TX5 := hidden (TX4.out.later hb5)
  have TY5 := hidden (TY4.out.later hb5)
  clear hb5 H4 TX4 TY4
  go_wp2_with fail
  refine (get_parts vy Y n w5 TY5.out (by omega) HFY.out [] false (by rw [HGY.out]; rfl) (by rw [HGY.out]; rfl)).mono ?_
  rintro e w6 ⟨rfl, hb6⟩
  have H6 := hidden (H5.out.trans (hb6.mono H5.out.size))
  have TX6 := hidden (TX5.out.later hb6)
  have TY6 := hidden (TY5.out.later hb6)
  clear hb6 H5 TX5 TY5
  go_wp2_with fail
  refine (get_parts _ xs m w6 (HT0.out.later H6.out) (by omega) HF.out G bb HG.out HBB.out).mono ?_
  rintro e w7 ⟨rfl, hb7⟩
  have H7 := hidden (H6.out.trans (hb7.mono H6.out.size))
  have TX7 := hidden (TX6.out.later hb7)
  have TY7 := hidden (TY6.out.later hb7)
  clear hb7 H6 TX6 TY6
  go_wp2_with fail
  refine (get_parts vx X m w7 TX7.out (by omega) HFX.out G bb (by rw [HMX.out]; exact HG.out) (by rw [HMX.out]; exact HBB.out)).mono ?_
  rintro e w8 ⟨rfl, hb8⟩
  have H8 := hidden (H7.out.trans (hb8.mono H7.out.size))
  have TX8 := hidden (TX7.out.later hb8)
  have TY8 := hidden (TY7.out.later hb8)
  clear hb8 H7 TX7 TY7
  go_wp2_with fail
  refine (get_parts vy Y m w8 TY8.out (by omega) HFY.out G bb (by rw [HMY.out]; exact HG.out) (by rw [HMY.out]; exact HBB.out)).mono ?_
  rintro e w9 ⟨rfl, hb9⟩
  have H9 := hidden (H8.out.trans (hb9.mono H8.out.size))
  have TX9 := hidden (TX8.out.later hb9)
  have TY9 := hidden (TY8.out.later hb9)
  clear hb9 H8 TX8 TY8
  go_wp2_with fail
  refine (right_any vx X w9 TX9.out (by omega)).mono ?_
  rintro e w10 ⟨rfl, hb10⟩
  have H10 := hidden (H9.out.trans (hb10.mono H9.out.size))
  have TY10 := hidden (TY9.out.later hb10)
  clear hb10 H9 TX9 TY9
  rw [HRX.out]
  go_wp2_with fail
  refine (right_any vy Y w10 TY10.out (by omega)).mono ?_
  rintro e w11 ⟨rfl, hb11⟩
  have H11 := hidden (H10.out.trans (hb11.mono H10.out.size))
  have TY11 := hidden (TY10.out.later hb11)
  clear hb11 H10 TY10
  rw [HRY.out]
  go_wp2_with fail
  refine (cut_any _ xs n w11 (HT0.out.later H11.out) (by omega) HF.out).mono ?_
  rintro e w12 ⟨⟨vz, rfl, htz⟩, hb12⟩
  rw [HY.out] at htz
  have H12 := hidden (H11.out.trans (hb12.mono H11.out.size))
  have TY12 := hidden (TY11.out.later hb12)
  have TZ12 := hidden htz
  clear hb12 htz H11 TY11
  go_wp2_with fail
  refine (same_any vy vz _ _ w12 TY12.out TZ12.out (by omega) (by omega)).mono ?_
  rintro e w13 ⟨rfl, hb13⟩
  have H13 := hidden (H12.out.trans (hb13.mono H12.out.size))
  clear hb13 H12 TY12 TZ12
  rw [decide_eq_true (Eq.refl Y)]
  go_wp2_with fail
  go_ret
  exact ⟨ret_bool (by simp), H13.out⟩

set_option maxHeartbeats 1000000 in
theorem treeKeeps_out (v : Value) (xs : List En) (n d m : Tx) (w : World) (hr : TreeAt w v xs) (hl : 60 < xs.length ∨ n = [] ∨ (xs.length ≤ 60 ∧ right [] xs = false)) :
    Calls Try.prog 4 #[v, .string ⟨n.toArray⟩, .string ⟨d.toArray⟩, .string ⟨m.toArray⟩] w fun e w' => e = .returned (.bool true) ∧ Below w.heap.size w w' := by
  obtain ⟨ao, cap, rfl⟩ := hr.shape
  have HT0 := hidden hr
  clear hr
  by_cases h60 : 60 < xs.length
  · have hb60 : (60 : Int) < (xs.length : Int) := by omega
    clear hl
    go_enter Try.func4, Try.ntmps4
    go_wp2_with fail
    refine (alive_any _).mono ?_
    rintro e w1 ⟨rfl, hb1⟩
    have H1 := hidden hb1
    clear hb1
    go_wp2_with fail
    go_ret
    exact ⟨rfl, H1.out⟩
  · have hb60 : ¬ (60 : Int) < (xs.length : Int) := by omega
    by_cases hn : n = []
    · subst hn
      clear hl
      go_enter Try.func4, Try.ntmps4
      go_wp2_with fail
      refine (alive_any _).mono ?_
      rintro e w1 ⟨rfl, hb1⟩
      have H1 := hidden hb1
      clear hb1
      go_wp2_with fail
      go_ret
      exact ⟨rfl, H1.out⟩
    · have hnb : (n == []) = false := by simpa using hn
      have HR := hidden (show right [] xs = false by
        rcases hl with h | h | h
        · exact absurd h h60
        · exact absurd h hn
        · exact h.2)
      clear hl hn
      go_enter Try.func4, Try.ntmps4
      go_wp2_with fail
      refine (alive_any _).mono ?_
      rintro e w1 ⟨rfl, hb1⟩
      have H1 := hidden hb1
      clear hb1
      go_wp2_with fail
      refine (refRight_any _ xs w1 (HT0.out.later H1.out) (by omega)).mono ?_
      rintro e w2 ⟨rfl, hb2⟩
      have H2 := hidden (H1.out.trans (hb2.mono H1.out.size))
      clear hb2 H1
      rw [HR.out]
      go_wp2_with fail
      go_ret
      exact ⟨rfl, H2.out⟩

theorem treeKeeps_any (v : Value) (xs : List En) (n d m : Tx) (w : World) (hr : TreeAt w v xs) (hf : Fit xs) (hn : n.length ≤ 281474976710656) (hd : d.length ≤ 281474976710656) :
    Calls Try.prog 4 #[v, .string ⟨n.toArray⟩, .string ⟨d.toArray⟩, .string ⟨m.toArray⟩] w fun e w' => e = .returned (.bool true) ∧ Below w.heap.size w w' := by
  by_cases hl : xs.length ≤ 60
  · by_cases h0 : n = []
    · exact treeKeeps_out v xs n d m w hr (Or.inr (Or.inl h0))
    · cases hR : right [] xs with
      | false => exact treeKeeps_out v xs n d m w hr (Or.inr (Or.inr ⟨hl, hR⟩))
      | true =>
        by_cases hmn : m = n
        · subst hmn
          exact treeKeeps_same v xs m d w hr hl hf hn hd h0 ((right_ok xs).1 hR)
        · exact treeKeeps_other v xs n d m w hr hl hf hn hd h0 hmn ((right_ok xs).1 hR)
  · exact treeKeeps_out v xs n d m w hr (Or.inl (by omega))

theorem treeKeeps_row (v : Value) (xs : List En) (n d m : Tx) (w : World) (hr : TreeAt w v xs) (hf : Fit xs) (hn : n.length ≤ 281474976710656) (hd : d.length ≤ 281474976710656) (_ : m.length ≤ 281474976710656) :
    Calls Try.prog 4 #[v, .string ⟨n.toArray⟩, .string ⟨d.toArray⟩, .string ⟨m.toArray⟩] w fun e w' => e = .returned (.bool true) ∧ Below w.heap.size w w' := treeKeeps_any v xs n d m w hr hf hn hd

end Go.Proofs.Ytehhpjgbffcocaa
