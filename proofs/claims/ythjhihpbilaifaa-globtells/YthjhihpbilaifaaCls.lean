/-
  What the program's class, IsClass, isDash and readItem answer at any place of a text; condition: the text's length.
-/
import Derived.Test.YthjhihpbilaifaaOne
namespace Go.Proofs.Ythjhihpbilaifaa
open Go.RowKit Go.Proofs.Ythjhihpbilaifaa.Gl

set_option maxHeartbeats 4000000 in
theorem class_any (t : Tx) (w : World) :
    Calls Try.prog 24 #[S t] w fun e w' => e = .returned (setV (classSet t)) ∧ Below w.heap.size w w' := by
  unfold S
  by_cases h0 : t = tAlpha
  · subst h0
    rw [show classSet tAlpha = alpha from rfl]
    unfold tAlpha
    go_enter Try.func24, Try.ntmps24
    go_wp2_with fail
    refine (span_any 65 90 _).mono ?_
    rintro e w1 ⟨rfl, hb1⟩
    have HB1 := hidden (show Below w.heap.size w w1 from ((Below.refl _ w).alloc (Nat.le_refl _) _).trans (hb1.mono (by simp)))
    have hZ1 : Arr w1 w.heap.size 0 0 0 0 := Arr.later (Arr.new w 0 0 0 0) hb1
    clear hb1
    go_wp2_with fail
    refine (span_any 97 122 _).mono ?_
    rintro e w2 ⟨rfl, hb2⟩
    have HB2 := hidden (HB1.out.trans (hb2.mono HB1.out.size))
    have hZ2 : Arr w2 w.heap.size 0 0 0 0 := hZ1.later hb2
    clear hZ1
    clear hb2
    go_wp2_with fail
    refine (with_any _ _ _).mono ?_
    rintro e w3 ⟨rfl, hb3⟩
    have HB3 := hidden (HB2.out.trans (hb3.mono HB2.out.size))
    have hZ3 : Arr w3 w.heap.size 0 0 0 0 := hZ2.later hb3
    clear hZ2
    clear hb3
    obtain ⟨c0, c1, c2, c3⟩ := hZ3.cells
    obtain ⟨d0, d1, d2, d3⟩ := hZ3.thawed
    clear hZ3
    unfold setV
    go_wp2_with fail
    refine bodyPost_ret (v := setV (both (spn 65 90) (spn 97 122))) (by simp [results, Try.results24, go_sem, c0, c1, c2, c3, setV]) rfl ?_
    exact ⟨rfl, (((HB3.out.setCell (Nat.le_refl _) _).setCell (Nat.le_refl _) _).setCell (Nat.le_refl _) _).setCell (Nat.le_refl _) _⟩
  by_cases h1 : t = tDigit
  · subst h1
    rw [show classSet tDigit = digit from rfl]
    unfold tDigit
    go_enter Try.func24, Try.ntmps24
    go_wp2_with fail
    refine (span_any 48 57 _).mono ?_
    rintro e w1 ⟨rfl, hb1⟩
    have HB1 := hidden (show Below w.heap.size w w1 from ((Below.refl _ w).alloc (Nat.le_refl _) _).trans (hb1.mono (by simp)))
    have hZ1 : Arr w1 w.heap.size 0 0 0 0 := Arr.later (Arr.new w 0 0 0 0) hb1
    clear hb1
    obtain ⟨c0, c1, c2, c3⟩ := hZ1.cells
    obtain ⟨d0, d1, d2, d3⟩ := hZ1.thawed
    clear hZ1
    unfold setV
    go_wp2_with fail
    refine bodyPost_ret (v := setV (spn 48 57)) (by simp [results, Try.results24, go_sem, c0, c1, c2, c3, setV]) rfl ?_
    exact ⟨rfl, (((HB1.out.setCell (Nat.le_refl _) _).setCell (Nat.le_refl _) _).setCell (Nat.le_refl _) _).setCell (Nat.le_refl _) _⟩
  by_cases h2 : t = tUpper
  · subst h2
    rw [show classSet tUpper = upper from rfl]
    unfold tUpper
    go_enter Try.func24, Try.ntmps24
    go_wp2_with fail
    refine (span_any 65 90 _).mono ?_
    rintro e w1 ⟨rfl, hb1⟩
    have HB1 := hidden (show Below w.heap.size w w1 from ((Below.refl _ w).alloc (Nat.le_refl _) _).trans (hb1.mono (by simp)))
    have hZ1 : Arr w1 w.heap.size 0 0 0 0 := Arr.later (Arr.new w 0 0 0 0) hb1
    clear hb1
    obtain ⟨c0, c1, c2, c3⟩ := hZ1.cells
    obtain ⟨d0, d1, d2, d3⟩ := hZ1.thawed
    clear hZ1
    unfold setV
    go_wp2_with fail
    refine bodyPost_ret (v := setV (spn 65 90)) (by simp [results, Try.results24, go_sem, c0, c1, c2, c3, setV]) rfl ?_
    exact ⟨rfl, (((HB1.out.setCell (Nat.le_refl _) _).setCell (Nat.le_refl _) _).setCell (Nat.le_refl _) _).setCell (Nat.le_refl _) _⟩
  by_cases h3 : t = tLower
  · subst h3
    rw [show classSet tLower = lower from rfl]
    unfold tLower
    go_enter Try.func24, Try.ntmps24
    go_wp2_with fail
    refine (span_any 97 122 _).mono ?_
    rintro e w1 ⟨rfl, hb1⟩
    have HB1 := hidden (show Below w.heap.size w w1 from ((Below.refl _ w).alloc (Nat.le_refl _) _).trans (hb1.mono (by simp)))
    have hZ1 : Arr w1 w.heap.size 0 0 0 0 := Arr.later (Arr.new w 0 0 0 0) hb1
    clear hb1
    obtain ⟨c0, c1, c2, c3⟩ := hZ1.cells
    obtain ⟨d0, d1, d2, d3⟩ := hZ1.thawed
    clear hZ1
    unfold setV
    go_wp2_with fail
    refine bodyPost_ret (v := setV (spn 97 122)) (by simp [results, Try.results24, go_sem, c0, c1, c2, c3, setV]) rfl ?_
    exact ⟨rfl, (((HB1.out.setCell (Nat.le_refl _) _).setCell (Nat.le_refl _) _).setCell (Nat.le_refl _) _).setCell (Nat.le_refl _) _⟩
  by_cases h4 : t = tAlnum
  · subst h4
    rw [show classSet tAlnum = alnum from rfl]
    unfold tAlnum
    go_enter Try.func24, Try.ntmps24
    go_wp2_with fail
    refine (span_any 65 90 _).mono ?_
    rintro e w1 ⟨rfl, hb1⟩
    have HB1 := hidden (show Below w.heap.size w w1 from ((Below.refl _ w).alloc (Nat.le_refl _) _).trans (hb1.mono (by simp)))
    have hZ1 : Arr w1 w.heap.size 0 0 0 0 := Arr.later (Arr.new w 0 0 0 0) hb1
    clear hb1
    go_wp2_with fail
    refine (span_any 97 122 _).mono ?_
    rintro e w2 ⟨rfl, hb2⟩
    have HB2 := hidden (HB1.out.trans (hb2.mono HB1.out.size))
    have hZ2 : Arr w2 w.heap.size 0 0 0 0 := hZ1.later hb2
    clear hZ1
    clear hb2
    go_wp2_with fail
    refine (with_any _ _ _).mono ?_
    rintro e w3 ⟨rfl, hb3⟩
    have HB3 := hidden (HB2.out.trans (hb3.mono HB2.out.size))
    have hZ3 : Arr w3 w.heap.size 0 0 0 0 := hZ2.later hb3
    clear hZ2
    clear hb3
    go_wp2_with fail
    refine (span_any 48 57 _).mono ?_
    rintro e w4 ⟨rfl, hb4⟩
    have HB4 := hidden (HB3.out.trans (hb4.mono HB3.out.size))
    have hZ4 : Arr w4 w.heap.size 0 0 0 0 := hZ3.later hb4
    clear hZ3
    clear hb4
    go_wp2_with fail
    refine (with_any _ _ _).mono ?_
    rintro e w5 ⟨rfl, hb5⟩
    have HB5 := hidden (HB4.out.trans (hb5.mono HB4.out.size))
    have hZ5 : Arr w5 w.heap.size 0 0 0 0 := hZ4.later hb5
    clear hZ4
    clear hb5
    obtain ⟨c0, c1, c2, c3⟩ := hZ5.cells
    obtain ⟨d0, d1, d2, d3⟩ := hZ5.thawed
    clear hZ5
    unfold setV
    go_wp2_with fail
    refine bodyPost_ret (v := setV (both (both (spn 65 90) (spn 97 122)) (spn 48 57))) (by simp [results, Try.results24, go_sem, c0, c1, c2, c3, setV]) rfl ?_
    exact ⟨rfl, (((HB5.out.setCell (Nat.le_refl _) _).setCell (Nat.le_refl _) _).setCell (Nat.le_refl _) _).setCell (Nat.le_refl _) _⟩
  by_cases h5 : t = tSpace
  · subst h5
    rw [show classSet tSpace = space from rfl]
    unfold tSpace
    go_enter Try.func24, Try.ntmps24
    go_wp2_with fail
    refine (span_any 9 13 _).mono ?_
    rintro e w1 ⟨rfl, hb1⟩
    have HB1 := hidden (show Below w.heap.size w w1 from ((Below.refl _ w).alloc (Nat.le_refl _) _).trans (hb1.mono (by simp)))
    have hZ1 : Arr w1 w.heap.size 0 0 0 0 := Arr.later (Arr.new w 0 0 0 0) hb1
    clear hb1
    go_wp2_with fail
    refine (span_any 32 32 _).mono ?_
    rintro e w2 ⟨rfl, hb2⟩
    have HB2 := hidden (HB1.out.trans (hb2.mono HB1.out.size))
    have hZ2 : Arr w2 w.heap.size 0 0 0 0 := hZ1.later hb2
    clear hZ1
    clear hb2
    go_wp2_with fail
    refine (with_any _ _ _).mono ?_
    rintro e w3 ⟨rfl, hb3⟩
    have HB3 := hidden (HB2.out.trans (hb3.mono HB2.out.size))
    have hZ3 : Arr w3 w.heap.size 0 0 0 0 := hZ2.later hb3
    clear hZ2
    clear hb3
    obtain ⟨c0, c1, c2, c3⟩ := hZ3.cells
    obtain ⟨d0, d1, d2, d3⟩ := hZ3.thawed
    clear hZ3
    unfold setV
    go_wp2_with fail
    refine bodyPost_ret (v := setV (both (spn 9 13) (spn 32 32))) (by simp [results, Try.results24, go_sem, c0, c1, c2, c3, setV]) rfl ?_
    exact ⟨rfl, (((HB3.out.setCell (Nat.le_refl _) _).setCell (Nat.le_refl _) _).setCell (Nat.le_refl _) _).setCell (Nat.le_refl _) _⟩
  have HC := hidden (show classSet t = none_ by unfold classSet classOf; rw [if_neg h0, if_neg h1, if_neg h2, if_neg h3, if_neg h4, if_neg h5]; rfl)
  have e0 : (t == tAlpha) = false := by rw [beq_eq_false_iff_ne]; exact h0
  have e1 : (t == tDigit) = false := by rw [beq_eq_false_iff_ne]; exact h1
  have e2 : (t == tUpper) = false := by rw [beq_eq_false_iff_ne]; exact h2
  have e3 : (t == tLower) = false := by rw [beq_eq_false_iff_ne]; exact h3
  have e4 : (t == tAlnum) = false := by rw [beq_eq_false_iff_ne]; exact h4
  have e5 : (t == tSpace) = false := by rw [beq_eq_false_iff_ne]; exact h5
  unfold tAlpha at e0
  unfold tDigit at e1
  unfold tUpper at e2
  unfold tLower at e3
  unfold tAlnum at e4
  unfold tSpace at e5
  clear h0 h1 h2 h3 h4 h5
  go_enter Try.func24, Try.ntmps24
  go_wp2_with fail
  refine bodyPost_ret (v := setV none_) (by simp [results, Try.results24, go_sem, setV, show ∀ i, word none_ i = 0 from word_none]) rfl ?_
  rw [HC.out]
  exact ⟨rfl, (Below.refl _ w).alloc (Nat.le_refl _) _⟩

theorem eqSet (a b c d : Int) (w : World) : (Op.equalIn 10000 35 (.agg #[.int .u64 a, .int .u64 b, .int .u64 c, .int .u64 d]) (.agg #[.int .u64 0, .int .u64 0, .int .u64 0, .int .u64 0])).run Try.prog w = .ok (a == 0 && b == 0 && c == 0 && d == 0) w := by
  have u3 := Try.underlying33
  have a3 := Try.isAgg33
  have z3 := Try.sizeOf33
  rw [show (10000 : Nat) = 9999 + 1 from rfl, Op.equalIn]
  simp only [Sem.run_bind, run_underlying Try.underlying35, Result.andThen_ok]
  simp only [Std.Legacy.Range.forIn_eq_forIn_range', Std.Legacy.Range.size, Nat.sub_zero, Nat.add_sub_cancel, Nat.div_one, List.range'_succ, List.range'_zero, List.forIn_cons, List.forIn_nil]
  go_simp
  by_cases h1 : a = 0 <;> by_cases h2 : b = 0 <;> by_cases h3 : c = 0 <;> by_cases h4 : d = 0 <;> simp [h1, h2, h3, h4]
theorem ext_text (p : Tx) (a b : Nat) : (⟨p.toArray⟩ : ByteArray).extract a b = ⟨((p.drop a).take (b - a)).toArray⟩ := by
  apply ByteArray.ext
  rw [ByteArray.data_extract]
  simp
theorem set_alpha : setV alpha = .agg #[.int .u64 0, .int .u64 576460743847706622, .int .u64 0, .int .u64 0] := by
  unfold setV
  rw [show word alpha 0 = 0 by decide +kernel, show word alpha 1 = 576460743847706622 by decide +kernel, show word alpha 2 = 0 by decide +kernel, show word alpha 3 = 0 by decide +kernel]
  rfl
theorem set_digit : setV digit = .agg #[.int .u64 287948901175001088, .int .u64 0, .int .u64 0, .int .u64 0] := by
  unfold setV
  rw [show word digit 0 = 287948901175001088 by decide +kernel, show word digit 1 = 0 by decide +kernel, show word digit 2 = 0 by decide +kernel, show word digit 3 = 0 by decide +kernel]
  rfl
theorem set_upper : setV upper = .agg #[.int .u64 0, .int .u64 134217726, .int .u64 0, .int .u64 0] := by
  unfold setV
  rw [show word upper 0 = 0 by decide +kernel, show word upper 1 = 134217726 by decide +kernel, show word upper 2 = 0 by decide +kernel, show word upper 3 = 0 by decide +kernel]
  rfl
theorem set_lower : setV lower = .agg #[.int .u64 0, .int .u64 576460743713488896, .int .u64 0, .int .u64 0] := by
  unfold setV
  rw [show word lower 0 = 0 by decide +kernel, show word lower 1 = 576460743713488896 by decide +kernel, show word lower 2 = 0 by decide +kernel, show word lower 3 = 0 by decide +kernel]
  rfl
theorem set_alnum : setV alnum = .agg #[.int .u64 287948901175001088, .int .u64 576460743847706622, .int .u64 0, .int .u64 0] := by
  unfold setV
  rw [show word alnum 0 = 287948901175001088 by decide +kernel, show word alnum 1 = 576460743847706622 by decide +kernel, show word alnum 2 = 0 by decide +kernel, show word alnum 3 = 0 by decide +kernel]
  rfl
theorem set_space : setV space = .agg #[.int .u64 4294983168, .int .u64 0, .int .u64 0, .int .u64 0] := by
  unfold setV
  rw [show word space 0 = 4294983168 by decide +kernel, show word space 1 = 0 by decide +kernel, show word space 2 = 0 by decide +kernel, show word space 3 = 0 by decide +kernel]
  rfl
theorem set_none : setV none_ = .agg #[.int .u64 0, .int .u64 0, .int .u64 0, .int .u64 0] := by
  unfold setV
  rw [show word none_ 0 = 0 from word_none 0, show word none_ 1 = 0 from word_none 1, show word none_ 2 = 0 from word_none 2, show word none_ 3 = 0 from word_none 3]
  rfl
theorem classSet_of {t : Tx} (h : classOf t = none) : classSet t = none_ := by unfold classSet; rw [h]; rfl

set_option maxHeartbeats 2000000 in
theorem isClass_any (p : Tx) (at_ : Nat) (w : World) (hp : p.length ≤ 1048576) (ha : at_ ≤ p.length) :
    Calls Try.prog 18 #[S p, .int .i64 at_] w fun e w' => e = .returned (.bool (isCls (p.drop at_))) ∧ Below w.heap.size w w' := by
  by_cases h : at_ + 9 ≤ p.length
  · have h1 : (9 : Int) ≤ (p.length : Int) - at_ := by omega
    unfold S
    go_enter Try.func18, Try.ntmps18
    go_wp2_with fail
    rw [ext_text, show at_ + 9 - at_ = 9 by omega]
    refine (class_any _ _).mono ?_
    rintro e w1 ⟨rfl, hb1⟩
    have HB := hidden hb1
    clear hb1
    cases hc : isCls (p.drop at_) with
    | false =>
      have hcl : classSet ((p.drop at_).take 9) = none_ := classSet_of (by unfold isCls at hc; simpa using hc)
      rw [hcl, set_none]
      have HQ := eqSet 0 0 0 0 w1
      have HCC := hidden hc
      clear hcl hc
      go_wp2
      go_ret
      exact ⟨by rw [HCC.out]; rfl, HB.out⟩
    | true =>
      rcases isCls_cases hc with e | e | e | e | e | e
      · rw [e, show classSet tAlpha = alpha from rfl, set_alpha]
        have HQ := eqSet 0 576460743847706622 0 0 w1
        have HCC := hidden hc
        clear e hc
        go_wp2
        go_ret
        exact ⟨by rw [HCC.out]; rfl, HB.out⟩
      · rw [e, show classSet tDigit = digit from rfl, set_digit]
        have HQ := eqSet 287948901175001088 0 0 0 w1
        have HCC := hidden hc
        clear e hc
        go_wp2
        go_ret
        exact ⟨by rw [HCC.out]; rfl, HB.out⟩
      · rw [e, show classSet tUpper = upper from rfl, set_upper]
        have HQ := eqSet 0 134217726 0 0 w1
        have HCC := hidden hc
        clear e hc
        go_wp2
        go_ret
        exact ⟨by rw [HCC.out]; rfl, HB.out⟩
      · rw [e, show classSet tLower = lower from rfl, set_lower]
        have HQ := eqSet 0 576460743713488896 0 0 w1
        have HCC := hidden hc
        clear e hc
        go_wp2
        go_ret
        exact ⟨by rw [HCC.out]; rfl, HB.out⟩
      · rw [e, show classSet tAlnum = alnum from rfl, set_alnum]
        have HQ := eqSet 287948901175001088 576460743847706622 0 0 w1
        have HCC := hidden hc
        clear e hc
        go_wp2
        go_ret
        exact ⟨by rw [HCC.out]; rfl, HB.out⟩
      · rw [e, show classSet tSpace = space from rfl, set_space]
        have HQ := eqSet 4294983168 0 0 0 w1
        have HCC := hidden hc
        clear e hc
        go_wp2
        go_ret
        exact ⟨by rw [HCC.out]; rfl, HB.out⟩
  · have h1 : ¬ (9 : Int) ≤ (p.length : Int) - at_ := by omega
    have HN := hidden (show isCls (p.drop at_) = false by
      cases hc : isCls (p.drop at_) with
      | false => rfl
      | true => have := isCls_len hc; rw [List.length_drop] at this; omega)
    unfold S
    go_enter Try.func18, Try.ntmps18
    go_wp2_with fail
    go_ret
    exact ⟨by rw [HN.out]; rfl, Below.refl _ _⟩

set_option maxHeartbeats 2000000 in
theorem isDash_any (p : Tx) (at_ : Nat) (w : World) (hp : p.length ≤ 1048576) (ha : at_ ≤ p.length) :
    Calls Try.prog 31 #[S p, .int .i64 at_] w fun e w' => e = .returned (.bool (isDash (p.drop at_))) ∧ Below w.heap.size w w' := by
  have hd : (p.drop at_).length = p.length - at_ := List.length_drop
  by_cases h1 : at_ + 1 < p.length
  · have h3 : (at_ : Int) + 1 < p.length := by omega
    obtain ⟨c, hc⟩ : ∃ c, c = p.getD at_ 0 := ⟨_, rfl⟩
    have hb : ∀ h, (⟨p.toArray⟩ : ByteArray)[at_]'h = c := fun h => by rw [byte_at, hc]
    obtain ⟨d, hd2⟩ : ∃ d, d = p.getD (at_ + 1) 0 := ⟨_, rfl⟩
    have hb2 : ∀ h, (⟨p.toArray⟩ : ByteArray)[at_ + 1]'h = d := fun h => by rw [byte_at, hd2]
    have HD := hidden (show isDash (p.drop at_) = (c == 45 && d != 93 && !isCls (p.drop (at_ + 1))) by
      unfold isDash
      rw [drop_getD, drop_getD, List.drop_drop, hc, hd2, hd]
      simp [show 1 < p.length - at_ by omega])
    unfold S
    clear hc hd2
    by_cases e1 : c = 45
    · subst e1
      by_cases e2 : d = 93
      · subst e2
        go_enter Try.func31, Try.ntmps31
        go_wp2_with fail
        go_ret
        exact ⟨by rw [HD.out]; rfl, Below.refl _ _⟩
      · have e3 := byte_ne (n := 93) e2
        have e4 : ((d.toNat : Int) != 93) = true := by rw [bne_iff_ne]; exact e3
        go_enter Try.func31, Try.ntmps31
        go_wp2_with fail
        refine (isClass_any p (at_ + 1) w hp (by omega)).mono ?_
        rintro e w1 ⟨rfl, hb1⟩
        have HB := hidden hb1
        clear hb1
        cases hcl : isCls (p.drop (at_ + 1))
        all_goals
          have HC := hidden hcl
          clear hcl
          go_wp2
          go_ret
          exact ⟨by rw [HD.out, HC.out]; simp [e2]; done, HB.out⟩
    · have e3 := byte_ne (n := 45) e1
      go_enter Try.func31, Try.ntmps31
      go_wp2_with fail
      go_ret
      exact ⟨by rw [HD.out]; simp [e1]; done, Below.refl _ _⟩
  · have h3 : ¬ (at_ : Int) + 1 < p.length := by omega
    have HD := hidden (show isDash (p.drop at_) = false by
      unfold isDash
      rw [hd]
      simp [show ¬ 1 < p.length - at_ by omega])
    unfold S
    go_enter Try.func31, Try.ntmps31
    go_wp2_with fail
    go_ret
    exact ⟨by rw [HD.out]; rfl, Below.refl _ _⟩

set_option maxHeartbeats 2000000 in
theorem readItem_any (p : Tx) (at_ : Nat) (w : World) (hp : p.length ≤ 1048576) (ha : at_ < p.length) :
    Calls Try.prog 30 #[S p, .int .i64 at_, .func (.func 20) #[] #[]] w fun e w' => e = .returned (.tuple #[setV (itemSet eOne (p.drop at_)), .int .i64 (at_ + itemLen eOne (p.drop at_) : Nat)]) ∧ Below w.heap.size w w' := by
  have hne : p.drop at_ ≠ [] := drop_ne ha
  unfold S
  go_enter Try.func30, Try.ntmps30
  go_wp2_with fail
  refine (isClass_any p at_ _ hp (by omega)).mono ?_
  rintro e w1 ⟨rfl, hb1⟩
  have HB1 := hidden (show Below w.heap.size w w1 from ((Below.refl _ w).alloc (Nat.le_refl _) _).trans (hb1.mono (by simp)))
  have hZ1 : Arr w1 w.heap.size 0 0 0 0 := Arr.later (Arr.new w 0 0 0 0) hb1
  have HZ1 := hidden hZ1
  clear hb1 hZ1
  cases hcl : isCls (p.drop at_) with
  | true =>
    have hlen := isCls_len hcl
    rw [List.length_drop] at hlen
    have HI := hidden (show itemSet eOne (p.drop at_) = classSet ((p.drop at_).take 9) by unfold itemSet; rw [if_pos hcl])
    have HL := hidden (show itemLen eOne (p.drop at_) = 9 by unfold itemLen; rw [if_pos hcl])
    clear hcl hne
    go_wp2_with fail
    rw [ext_text, show at_ + 9 - at_ = 9 by omega]
    refine (class_any _ _).mono ?_
    rintro e w2 ⟨rfl, hb2⟩
    have HB2 := hidden (HB1.out.trans (hb2.mono HB1.out.size))
    obtain ⟨c0, c1, c2, c3⟩ := (HZ1.out.later hb2).cells
    obtain ⟨d0, d1, d2, d3⟩ := (HZ1.out.later hb2).thawed
    clear hb2
    unfold setV
    go_wp2
    refine bodyPost_ret (v := .tuple #[setV (classSet ((p.drop at_).take 9)), .int .i64 (at_ + 9)]) (by simp [results, Try.results30, go_sem, c0, c1, c2, c3, setV]) rfl ?_
    rw [HI.out, HL.out]
    exact ⟨rfl, (((HB2.out.setCell (Nat.le_refl _) _).setCell (Nat.le_refl _) _).setCell (Nat.le_refl _) _).setCell (Nat.le_refl _) _⟩
  | false =>
    have HC := hidden hcl
    have HN := hidden hne
    clear hcl hne
    go_wp2_with fail
    refine (one_any p at_ _ hp ha).mono ?_
    rintro e w2 ⟨rfl, rfl⟩
    have hb := byteLen_le eOne HN.out
    rw [List.length_drop] at hb
    obtain ⟨n1, hn1⟩ : ∃ n, n = at_ + byteLen eOne (p.drop at_) := ⟨_, rfl⟩
    obtain ⟨c1, hc1⟩ : ∃ c, c = byteVal eOne (p.drop at_) := ⟨_, rfl⟩
    rw [← hn1, ← hc1]
    have hn1p : n1 ≤ p.length := by omega
    have HD1 := hidden (show (p.drop at_).drop (byteLen eOne (p.drop at_)) = p.drop n1 by rw [List.drop_drop, hn1])
    have HN1 := hidden hn1
    have HC1 := hidden hc1
    clear hn1 hc1 hb
    go_wp2_with fail
    refine (isDash_any p n1 _ hp hn1p).mono ?_
    rintro e w3 ⟨rfl, hb3⟩
    have HB3 := hidden (HB1.out.trans (hb3.mono HB1.out.size))
    have HZ3 := hidden (HZ1.out.later hb3)
    clear hb3
    cases hda : isDash (p.drop n1) with
    | false =>
      have HI := hidden (show itemSet eOne (p.drop at_) = spn c1.toNat c1.toNat by unfold itemSet; rw [HC.out, HD1.out, hda, ← HC1.out]; rfl)
      have HL := hidden (show at_ + itemLen eOne (p.drop at_) = n1 by unfold itemLen; rw [HC.out, HD1.out, hda, HN1.out]; rfl)
      clear hda
      go_wp2_with fail
      refine (span_any c1 c1 _).mono ?_
      rintro e w4 ⟨rfl, hb4⟩
      have HB4 := hidden (HB3.out.trans (hb4.mono HB3.out.size))
      obtain ⟨e0, e1, e2, e3⟩ := (HZ3.out.later hb4).cells
      obtain ⟨d0, d1, d2, d3⟩ := (HZ3.out.later hb4).thawed
      clear hb4
      unfold setV
      go_wp2
      refine bodyPost_ret (v := .tuple #[setV (spn c1.toNat c1.toNat), .int .i64 n1]) (by simp [results, Try.results30, go_sem, e0, e1, e2, e3, setV]) rfl ?_
      rw [HI.out, HL.out]
      exact ⟨rfl, (((HB4.out.setCell (Nat.le_refl _) _).setCell (Nat.le_refl _) _).setCell (Nat.le_refl _) _).setCell (Nat.le_refl _) _⟩
    | true =>
      have hlen := isDash_len hda
      rw [List.length_drop] at hlen
      have hn2 : n1 + 1 < p.length := by omega
      have hb := byteLen_le eOne (drop_ne hn2)
      rw [List.length_drop] at hb
      have HD2 := hidden (show (p.drop at_).drop (byteLen eOne (p.drop at_) + 1) = p.drop (n1 + 1) by rw [List.drop_drop, HN1.out]; rfl)
      have HI := hidden (show itemSet eOne (p.drop at_) = spn c1.toNat (byteVal eOne (p.drop (n1 + 1))).toNat by unfold itemSet; rw [HC.out, HD1.out, hda, ← HC1.out, HD2.out]; rfl)
      have HL := hidden (show at_ + itemLen eOne (p.drop at_) = n1 + 1 + byteLen eOne (p.drop (n1 + 1)) by unfold itemLen; rw [HC.out, HD1.out, hda, HD2.out, HN1.out]; simp; omega)
      clear hda
      go_wp2_with fail
      refine (one_any p (n1 + 1) _ hp hn2).mono ?_
      rintro e w4 ⟨rfl, rfl⟩
      obtain ⟨n2, hn2⟩ : ∃ n, n = n1 + 1 + byteLen eOne (p.drop (n1 + 1)) := ⟨_, rfl⟩
      obtain ⟨c2, hc2⟩ : ∃ c, c = byteVal eOne (p.drop (n1 + 1)) := ⟨_, rfl⟩
      rw [← hn2, ← hc2]
      rw [← hn2] at HL
      rw [← hc2] at HI
      clear hn2 hc2 hb
      go_wp2_with fail
      refine (span_any c1 c2 _).mono ?_
      rintro e w5 ⟨rfl, hb4⟩
      have HB4 := hidden (HB3.out.trans (hb4.mono HB3.out.size))
      obtain ⟨e0, e1, e2, e3⟩ := (HZ3.out.later hb4).cells
      obtain ⟨d0, d1, d2, d3⟩ := (HZ3.out.later hb4).thawed
      clear hb4
      unfold setV
      go_wp2
      refine bodyPost_ret (v := .tuple #[setV (spn c1.toNat c2.toNat), .int .i64 n2]) (by simp [results, Try.results30, go_sem, e0, e1, e2, e3, setV]) rfl ?_
      rw [HI.out, HL.out]
      exact ⟨rfl, (((HB4.out.setCell (Nat.le_refl _) _).setCell (Nat.le_refl _) _).setCell (Nat.le_refl _) _).setCell (Nat.le_refl _) _⟩

end Go.Proofs.Ythjhihpbilaifaa
