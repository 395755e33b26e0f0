
/-
  What the program's rightAlone, Right, Olds, News and Changes answer at any steps that lie in memory; conditions: the lists' and texts' lengths.
-/
import Derived.Test.YtbbbphlojefgjaaOSide
namespace Go.Proofs.Ytbbbphlojefgjaa
open Go.RowKit Go.Proofs.Ytbbbphlojefgjaa.Ln Go.Proofs.Ytbbbphlojefgjaa.Ol

/-- a step's own block -/
abbrev opO (x1 x2 : Int) (x3 : Tx) : Obj := .cells #[.int .i64 x1, .int .i64 x2, .string ⟨x3.toArray⟩] 36

set_option maxHeartbeats 1000000 in
theorem rightAlone_any (x1 x2 : Int) (x3 : Tx) (w : World) (hf : x3.length ≤ 140737488355328) :
    Calls Try.prog 40 #[.agg #[.int .i64 x1, .int .i64 x2, .string ⟨x3.toArray⟩]] w fun e w' => e = .returned (.bool (alone (x1, x2, x3))) ∧ w' = w.alloc (opO x1 x2 x3) := by
  by_cases h1 : x1 = 1
  · subst h1
    have HA := hidden (show alone (1, x2, x3) = (decide (1 ≤ x2) && decide (x2 ≤ 2147483648) && decide (x3 = [])) by simp [alone])
    by_cases h2 : 1 ≤ x2
    · by_cases h3 : x2 ≤ 2147483648
      · by_cases h4 : x3 = []
        · subst h4
          go_enter Try.func40, Try.ntmps40
          go_wp2_with fail
          go_ret
          exact ⟨ret_bool (by rw [HA.out]; simp [h2, h3]), rfl⟩
        · have h4b : x3.isEmpty = false := by simpa using h4
          have h4c : (x3 == []) = false := by simpa using h4
          go_enter Try.func40, Try.ntmps40
          go_wp2_with fail
          go_ret
          exact ⟨ret_bool (by rw [HA.out]; simp [h4]), rfl⟩
      · have h3b : decide (x2 ≤ 2147483648) = false := by simpa using h3
        have H3 := hidden h3b
        go_enter Try.func40, Try.ntmps40
        go_wp2_with fail
        go_ret
        exact ⟨ret_bool (by rw [HA.out, H3.out]; simp), rfl⟩
    · have h2b : decide (1 ≤ x2) = false := by simpa using h2
      have h2c : decide (x2 ≥ 1) = false := by simpa using h2
      have H2 := hidden h2b
      go_enter Try.func40, Try.ntmps40
      go_wp2_with fail
      go_ret
      exact ⟨ret_bool (by rw [HA.out, H2.out]; simp), rfl⟩
  · have h1b : (x1 == 1) = false := by simpa using h1
    by_cases hk : x1 = 2 ∨ x1 = 3 ∨ x1 = 4
    · have HA := hidden (show alone (x1, x2, x3) = (x2 == 0 && rt x3) by
        have h9 : (x1 == 2 || x1 == 3 || x1 == 4) = true := by simp only [Bool.or_eq_true, beq_iff_eq]; omega
        simp only [alone, h1, if_false, h9, Bool.true_and])
      by_cases h2 : x2 = 0
      · subst h2
        rcases hk with rfl | rfl | rfl
        all_goals
          go_enter Try.func40, Try.ntmps40
          go_wp2_with (go_at_call 49; refine (lrightX x3 _ hf).mono ?_; rintro e w' ⟨rfl, rfl⟩)
          go_ret
          exact ⟨ret_bool (by rw [HA.out]; simp), rfl⟩
      · have h2b : (x2 == 0) = false := by simpa using h2
        rcases hk with rfl | rfl | rfl
        all_goals
          go_enter Try.func40, Try.ntmps40
          go_wp2_with fail
          go_ret
          exact ⟨ret_bool (by rw [HA.out]; simp [h2]), rfl⟩
    · have h2 : ¬ x1 = 2 := by omega
      have h3 : ¬ x1 = 3 := by omega
      have h4 : ¬ x1 = 4 := by omega
      have HA := hidden (show alone (x1, x2, x3) = false by simp [alone, h1, h2, h3, h4])
      have h2b : (x1 == 2) = false := by simpa using h2
      have h3b : (x1 == 3) = false := by simpa using h3
      have h4b : (x1 == 4) = false := by simpa using h4
      clear hk
      go_enter Try.func40, Try.ntmps40
      go_wp2_with fail
      go_ret
      exact ⟨ret_bool (by rw [HA.out]), rfl⟩

theorem right_eq (xs : List Oq) : right xs = (xs.all alone && (sideB 3 xs && sideB 4 xs)) := by
  unfold right sideB
  cases xs.all alone <;> cases (rsl 3 xs).isSome <;> cases (rsl 4 xs).isSome <;> simp
theorem not_alone {xs : List Oq} {k : Nat} {x : Oq} (h : xs[k]? = some x) (ha : alone x = false) : right xs = false := by
  rw [right_eq]
  have : xs.all alone = false := by
    rw [Bool.eq_false_iff]
    intro e
    rw [List.all_eq_true] at e
    have := e x (List.mem_of_getElem? h)
    rw [ha] at this; cases this
  rw [this]; rfl
theorem all_snoc {xs : List Oq} {k : Nat} {x : Oq} (h : xs[k]? = some x) (h1 : (xs.take k).all alone = true) (h2 : alone x = true) : (xs.take (k + 1)).all alone = true := by
  rw [take_snoc h, List.all_append, h1]; simp [h2]

set_option maxHeartbeats 2000000 in
theorem oright_any (v : Value) (xs : List Oq) (w : World) (hr : OpsAt w v xs) (hl : xs.length ≤ 4398046511104) (hf : Fit xs) :
    Calls Try.prog 23 #[v] w fun e w' => e = .returned (.bool (right xs)) ∧ Below w.heap.size w w' := by
  have HR := hidden hr
  have HF := hidden hf
  by_cases hne : xs = []
  · subst hne
    obtain ⟨ao, cap, rfl⟩ := hr.shape
    clear hr hf
    go_enter Try.func23, Try.ntmps23
    go_wp2_with fail
    refine wp_loop_rounds 1 ?_
    rw [rounds_succ]
    go_wp2_with fail
    refine (rightSide_any 3 _ [] w HR.out hl HF.out).mono ?_
    rintro e w2 ⟨rfl, hb2⟩
    have HB2 := hidden hb2
    clear hb2
    rw [show sideB 3 [] = true from rfl]
    go_wp2_with fail
    refine (rightSide_any 4 _ [] w2 (HR.out.later HB2.out) hl HF.out).mono ?_
    rintro e w3 ⟨rfl, hb3⟩
    have HB3 := hidden (HB2.out.trans (hb3.mono HB2.out.size))
    clear hb3
    go_wp2_with fail
    go_ret
    exact ⟨ret_bool rfl, HB3.out⟩
  · obtain ⟨b, o, cap, rfl, hcap, hb, hc⟩ := hr.cells hne
    have HC := hidden hc
    clear hr hf hc hne
    go_enter Try.func23, Try.ntmps23
    go_wp2_with fail
    go_loopw [7] (fun i wr => ∃ k : Nat, k ≤ xs.length ∧ i = .int .i64 k ∧ Hid ((xs.take k).all alone = true) ∧ Hid (Below w.heap.size w wr)) (fun i _ => xs.length - (intOf i).toNat)
    case atStart => exact ⟨0, Nat.zero_le _, rfl, rfl, Below.refl _ _⟩
    case round =>
      obtain ⟨k, hk, rfl, hall, hbl⟩ := hrel
      by_cases hlt : k < xs.length
      · obtain ⟨x1, x2, x3, hx⟩ := op_some hlt
        obtain ⟨c1, c2, c3⟩ := three_later hb hbl.out (HC.out k _ hx)
        simp only at c1 c2 c3
        have HX := hidden hx
        have HF3 := hidden (HF.out _ (List.mem_of_getElem? hx))
        have hbr := Nat.lt_of_lt_of_le hb hbl.out.size
        clear hx
        cases ha : alone (x1, x2, x3) with
        | true =>
          have HAS := hidden (all_snoc HX.out hall.out ha)
          have HA := hidden ha
          clear ha
          go_wp2_with (go_at_call 40; refine (rightAlone_any x1 x2 x3 _ HF3.out).mono ?_; rw [HA.out]; rintro e w' ⟨rfl, rfl⟩)
          go_roundw
          case rel => exact ⟨k + 1, by omega, by go_num, HAS.out, bel_alloc (bel_alloc hbl.out _) _⟩
          case measure => simp [intOf]; omega
        | false =>
          have HN := hidden (not_alone HX.out ha)
          have HA := hidden ha
          clear ha
          go_wp2_with (go_at_call 40; refine (rightAlone_any x1 x2 x3 _ HF3.out).mono ?_; rw [HA.out]; rintro e w' ⟨rfl, rfl⟩)
          go_ret
          exact ⟨ret_bool HN.out.symm, bel_alloc (bel_alloc hbl.out _) _⟩
      · have HAL := hidden (show xs.all alone = true by have := hall.out; rw [List.take_of_length_le (by omega)] at this; exact this)
        go_wp2_with fail
        refine (rightSide_any 3 _ xs wr (HR.out.later hbl.out) hl HF.out).mono ?_
        rintro e w2 ⟨rfl, hb2⟩
        have HB2 := hidden (hbl.out.trans (hb2.mono hbl.out.size))
        clear hb2
        cases hs : sideB 3 xs with
        | true =>
          have HS := hidden hs
          clear hs
          go_wp2_with fail
          refine (rightSide_any 4 _ xs w2 (HR.out.later HB2.out) hl HF.out).mono ?_
          rintro e w3 ⟨rfl, hb3⟩
          have HB3 := hidden (HB2.out.trans (hb3.mono HB2.out.size))
          clear hb3
          go_wp2_with fail
          go_ret
          exact ⟨ret_bool (by rw [right_eq, HAL.out, HS.out]; rfl), HB3.out⟩
        | false =>
          have HS := hidden hs
          clear hs
          go_wp2_with fail
          go_ret
          exact ⟨ret_bool (by rw [right_eq, HAL.out, HS.out]; rfl), HB2.out⟩

theorem chs_take (xs : List Oq) (k : Nat) : chs (xs.take k) ≤ k := by
  unfold chs
  have := List.length_filter_le chg (xs.take k)
  rw [List.length_take] at this
  omega
theorem chs_all (xs : List Oq) : chs xs ≤ xs.length := List.length_filter_le chg xs
theorem chs_on {xs : List Oq} {k : Nat} {x : Oq} (h : xs[k]? = some x) (hc : chg x = true) : chs (xs.take (k + 1)) = chs (xs.take k) + 1 := by
  rw [take_snoc h, chs_app]; simp [chs, hc]
theorem chs_off {xs : List Oq} {k : Nat} {x : Oq} (h : xs[k]? = some x) (hc : chg x = false) : chs (xs.take (k + 1)) = chs (xs.take k) := by
  rw [take_snoc h, chs_app]; simp [chs, hc]

set_option maxHeartbeats 2000000 in
theorem ochanges_any (v : Value) (xs : List Oq) (w : World) (hr : OpsAt w v xs) (hl : xs.length ≤ 4398046511104) :
    Calls Try.prog 28 #[v] w fun e w' => e = .returned (.int .i64 (chs xs : Nat)) ∧ Below w.heap.size w w' := by
  by_cases hne : xs = []
  · subst hne
    obtain ⟨ao, cap, rfl⟩ := hr.shape
    clear hr
    go_enter Try.func28, Try.ntmps28
    go_wp2_with fail
    refine wp_loop_rounds 1 ?_
    rw [rounds_succ]
    go_wp2_with fail
    go_ret
    exact ⟨rfl, Below.refl _ _⟩
  · obtain ⟨b, o, cap, rfl, hcap, hb, hc⟩ := hr.cells hne
    have HC := hidden hc
    clear hr hc hne
    go_enter Try.func28, Try.ntmps28
    go_wp2_with fail
    go_loopw [3, 8] (fun q i wr => ∃ k m : Nat, k ≤ xs.length ∧ m ≤ k ∧ q = .int .i64 m ∧ i = .int .i64 k ∧ Hid (m = chs (xs.take k)) ∧ Hid (Below w.heap.size w wr)) (fun _ i _ => xs.length - (intOf i).toNat)
    case atStart => exact ⟨0, 0, Nat.zero_le _, Nat.le_refl _, rfl, rfl, rfl, Below.refl _ _⟩
    case round =>
      obtain ⟨k, m, hk, hm, rfl, rfl, hch, hbl⟩ := hrel
      by_cases hlt : k < xs.length
      · obtain ⟨x1, x2, x3, hx⟩ := op_some hlt
        obtain ⟨c1, c2, c3⟩ := three_later hb hbl.out (HC.out k _ hx)
        simp only at c1 c2 c3
        have HX := hidden hx
        have hbr := Nat.lt_of_lt_of_le hb hbl.out.size
        clear hx
        by_cases h3 : x1 = 3
        · subst h3
          have HS := hidden (chs_on HX.out (by simp [chg]))
          go_wp2_with fail
          go_roundw
          case rel => exact ⟨k + 1, m + 1, by omega, by omega, by go_num, by go_num, hidden (by rw [HS.out, hch.out]), bel_alloc hbl.out _⟩
          case measure => simp [intOf]; omega
        · have h3b : (x1 == 3) = false := by simpa using h3
          by_cases h4 : x1 = 4
          · subst h4
            have HS := hidden (chs_on HX.out (by simp [chg]))
            clear h3 h3b
            go_wp2_with fail
            go_roundw
            case rel => exact ⟨k + 1, m + 1, by omega, by omega, by go_num, by go_num, hidden (by rw [HS.out, hch.out]), bel_alloc hbl.out _⟩
            case measure => simp [intOf]; omega
          · have h4b : (x1 == 4) = false := by simpa using h4
            have HS := hidden (chs_off HX.out (show chg (x1, x2, x3) = false by simp [chg, h3, h4]))
            go_wp2_with fail
            go_roundw
            case rel => exact ⟨k + 1, m, by omega, by omega, rfl, by go_num, hidden (by rw [HS.out, hch.out]), bel_alloc hbl.out _⟩
            case measure => simp [intOf]; omega
      · have HM := hidden (show m = chs xs by have := hch.out; rw [List.take_of_length_le (by omega)] at this; exact this)
        go_wp2_with fail
        go_ret
        exact ⟨ret_int (by rw [HM.out]), hbl.out⟩

end Go.Proofs.Ytbbbphlojefgjaa
