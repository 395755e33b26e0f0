
/-
  What the document's own old, fresh, plus, Olds, News, Changes and Right answer at any steps that lie in memory; conditions: the lists' and texts' lengths.
-/
import Derived.Test.YtcdjemheokmglabOTop
namespace Go.Proofs.Ytcdjemheokmglab
open Go.RowKit Go.Proofs.Ytcdjemheokmglab.Ln Go.Proofs.Ytcdjemheokmglab.Ol

set_option maxHeartbeats 1000000 in
theorem plus_any (a b : Int) (w : World) (ha : 0 ≤ a) (ha2 : a ≤ 1099511627776) (hb : 0 ≤ b) :
    Calls Try.prog 19 #[.int .i64 a, .int .i64 b] w fun e w' => e = .returned (.int .i64 (min (a + min b 1099511627776) 1099511627776)) ∧ w' = w := by
  by_cases h1 : a ≥ 1099511627776
  · go_enter Try.func19, Try.ntmps19
    go_wp2_with fail
    go_ret
    exact ⟨ret_int (by omega), rfl⟩
  · have h1b : decide (a ≥ 1099511627776) = false := by simpa using h1
    have h1c : decide (1099511627776 ≤ a) = false := by simpa using h1
    by_cases h2 : b ≥ 1099511627776
    · go_enter Try.func19, Try.ntmps19
      go_wp2_with fail
      go_ret
      exact ⟨ret_int (by omega), rfl⟩
    · have h2b : decide (b ≥ 1099511627776) = false := by simpa using h2
      have h2c : decide (1099511627776 ≤ b) = false := by simpa using h2
      have hwr : wrap64 (a + b) = a + b := by unfold wrap64; omega
      by_cases h3 : a + b > 1099511627776
      · go_enter Try.func19, Try.ntmps19
        go_wp2_with fail
        go_ret
        exact ⟨ret_int (by omega), rfl⟩
      · have h3b : decide (a + b > 1099511627776) = false := by simpa using h3
        have h3c : decide (1099511627776 < a + b) = false := by simpa using h3
        go_enter Try.func19, Try.ntmps19
        go_wp2_with fail
        go_ret
        exact ⟨ret_int (by omega), rfl⟩

set_option maxHeartbeats 1000000 in
theorem old_any (x1 x2 : Int) (x3 : Tx) (w : World) :
    Calls Try.prog 12 #[.agg #[.int .i64 x1, .int .i64 x2, .string ⟨x3.toArray⟩]] w fun e w' => e = .returned (.int .i64 (ln 3 (x1, x2, x3))) ∧ w' = w.alloc (opO x1 x2 x3) := by
  by_cases h1 : x1 = 1
  · subst h1
    by_cases h2 : x2 > 0
    · have HL := hidden (show ln 3 (1, x2, x3) = x2 by simp only [ln, if_true]; omega)
      go_enter Try.func12, Try.ntmps12
      go_wp2_with fail
      go_ret
      exact ⟨ret_int HL.out.symm, rfl⟩
    · have HL := hidden (show ln 3 (1, x2, x3) = 0 by simp only [ln, if_true]; omega)
      have h2b : decide (x2 > 0) = false := by simpa using h2
      have h2c : decide (0 < x2) = false := by simpa using h2
      go_enter Try.func12, Try.ntmps12
      go_wp2_with fail
      go_ret
      exact ⟨ret_int HL.out.symm, rfl⟩
  · have h1b : (x1 == 1) = false := by simpa using h1
    by_cases h2 : x1 = 2
    · subst h2
      go_enter Try.func12, Try.ntmps12
      go_wp2_with fail
      go_ret
      exact ⟨ret_int (by simp [ln]), rfl⟩
    · have h2b : (x1 == 2) = false := by simpa using h2
      by_cases h3 : x1 = 3
      · subst h3
        go_enter Try.func12, Try.ntmps12
        go_wp2_with fail
        go_ret
        exact ⟨ret_int (by simp [ln]), rfl⟩
      · have h3b : (x1 == 3) = false := by simpa using h3
        have HL := hidden (show ln 3 (x1, x2, x3) = 0 by simp [ln, h1, h2, h3])
        go_enter Try.func12, Try.ntmps12
        go_wp2_with fail
        go_ret
        exact ⟨ret_int HL.out.symm, rfl⟩

/-- what fresh leaves -/
def freshW (x1 x2 : Int) (x3 : Tx) (w : World) : World := if x1 = 3 ∨ x1 = 4 then w.alloc (opO x1 x2 x3) else (w.alloc (opO x1 x2 x3)).alloc (opO x1 x2 x3)
theorem freshW_bel (x1 x2 : Int) (x3 : Tx) {a w : World} (h : Below a.heap.size a w) : Below a.heap.size a (freshW x1 x2 x3 w) := by
  unfold freshW; split
  · exact bel_alloc h _
  · exact bel_alloc (bel_alloc h _) _
set_option maxHeartbeats 1000000 in
theorem fresh_any (x1 x2 : Int) (x3 : Tx) (w : World) :
    Calls Try.prog 13 #[.agg #[.int .i64 x1, .int .i64 x2, .string ⟨x3.toArray⟩]] w fun e w' => e = .returned (.int .i64 (ln 4 (x1, x2, x3))) ∧ w' = freshW x1 x2 x3 w := by
  by_cases h3 : x1 = 3
  · subst h3
    go_enter Try.func13, Try.ntmps13
    go_wp2_with fail
    go_ret
    exact ⟨ret_int (by simp [ln]), by simp [freshW]⟩
  · have h3b : (x1 == 3) = false := by simpa using h3
    by_cases h4 : x1 = 4
    · subst h4
      clear h3 h3b
      go_enter Try.func13, Try.ntmps13
      go_wp2_with fail
      go_ret
      exact ⟨ret_int (by simp [ln]), by simp [freshW]⟩
    · have h4b : (x1 == 4) = false := by simpa using h4
      have HL := hidden (show ln 3 (x1, x2, x3) = ln 4 (x1, x2, x3) by simp [ln, h3, h4])
      have HW := hidden (show freshW x1 x2 x3 w = (w.alloc (opO x1 x2 x3)).alloc (opO x1 x2 x3) by simp [freshW, h3, h4])
      go_enter Try.func13, Try.ntmps13
      go_wp2_with (go_at_call 12; refine (old_any x1 x2 x3 _).mono ?_; rintro e w' ⟨rfl, rfl⟩)
      go_ret
      exact ⟨ret_int HL.out, HW.out.symm⟩

set_option maxHeartbeats 2000000 in
theorem polds_any (v : Value) (xs : List Oq) (w : World) (hr : OpsAt w v xs) (hl : xs.length ≤ 4398046511104) :
    Calls Try.prog 9 #[v] w fun e w' => e = .returned (.int .i64 (cnt 3 xs)) ∧ Below w.heap.size w w' := by
  by_cases hne : xs = []
  · subst hne
    obtain ⟨ao, cap, rfl⟩ := hr.shape
    clear hr
    go_enter Try.func9, Try.ntmps9
    go_wp2_with fail
    refine wp_loop_rounds 1 ?_
    rw [rounds_succ]
    go_wp2_with fail
    go_ret
    exact ⟨rfl, Below.refl _ _⟩
  · obtain ⟨b, o, cap, rfl, hcap, hb, hc⟩ := hr.cells hne
    have HC := hidden hc
    clear hr hc hne
    go_enter Try.func9, Try.ntmps9
    go_wp2_with fail
    go_loopw [3, 4] (fun q i wr => ∃ (k : Nat) (m : Int), k ≤ xs.length ∧ 0 ≤ m ∧ m ≤ 1099511627776 ∧ q = .int .i64 m ∧ i = .int .i64 k ∧ Hid (m = cnt 3 (xs.take k)) ∧ Hid (Below w.heap.size w wr)) (fun _ i _ => xs.length - (intOf i).toNat)
    case atStart => exact ⟨0, 0, Nat.zero_le _, by omega, by omega, rfl, rfl, rfl, Below.refl _ _⟩
    case round =>
      obtain ⟨k, m, hk, hm0, hm1, rfl, rfl, hch, hbl⟩ := hrel
      by_cases hlt : k < xs.length
      · obtain ⟨x1, x2, x3, hx⟩ := op_some hlt
        obtain ⟨c1, c2, c3⟩ := three_later hb hbl.out (HC.out k _ hx)
        simp only at c1 c2 c3
        have HS := hidden (show min (m + min (ln 3 (x1, x2, x3)) 1099511627776) 1099511627776 = cnt 3 (xs.take (k + 1)) by rw [take_snoc hx, cnt_snoc, hch.out])
        have HB := hidden (cnt_pos 3 (xs.take (k + 1)))
        have hlp := ln_pos 3 (x1, x2, x3)
        clear hx
        go_wp2_with (first | (go_at_call 12; refine (old_any x1 x2 x3 _).mono ?_; rintro e w' ⟨rfl, rfl⟩) | (go_at_call 19; refine (plus_any m _ _ hm0 hm1 hlp).mono ?_; rw [HS.out]; rintro e w' ⟨rfl, rfl⟩))
        go_roundw
        case rel => exact ⟨k + 1, _, by omega, HB.out.1, HB.out.2, rfl, by go_num, rfl, bel_alloc hbl.out _⟩
        case measure => simp [intOf]; omega
      · have HM := hidden (show m = cnt 3 xs by have := hch.out; rw [List.take_of_length_le (by omega)] at this; exact this)
        go_wp2_with fail
        go_ret
        exact ⟨ret_int HM.out, hbl.out⟩
set_option maxHeartbeats 2000000 in
theorem pnews_any (v : Value) (xs : List Oq) (w : World) (hr : OpsAt w v xs) (hl : xs.length ≤ 4398046511104) :
    Calls Try.prog 8 #[v] w fun e w' => e = .returned (.int .i64 (cnt 4 xs)) ∧ Below w.heap.size w w' := by
  by_cases hne : xs = []
  · subst hne
    obtain ⟨ao, cap, rfl⟩ := hr.shape
    clear hr
    go_enter Try.func8, Try.ntmps8
    go_wp2_with fail
    refine wp_loop_rounds 1 ?_
    rw [rounds_succ]
    go_wp2_with fail
    go_ret
    exact ⟨rfl, Below.refl _ _⟩
  · obtain ⟨b, o, cap, rfl, hcap, hb, hc⟩ := hr.cells hne
    have HC := hidden hc
    clear hr hc hne
    go_enter Try.func8, Try.ntmps8
    go_wp2_with fail
    go_loopw [3, 4] (fun q i wr => ∃ (k : Nat) (m : Int), k ≤ xs.length ∧ 0 ≤ m ∧ m ≤ 1099511627776 ∧ q = .int .i64 m ∧ i = .int .i64 k ∧ Hid (m = cnt 4 (xs.take k)) ∧ Hid (Below w.heap.size w wr)) (fun _ i _ => xs.length - (intOf i).toNat)
    case atStart => exact ⟨0, 0, Nat.zero_le _, by omega, by omega, rfl, rfl, rfl, Below.refl _ _⟩
    case round =>
      obtain ⟨k, m, hk, hm0, hm1, rfl, rfl, hch, hbl⟩ := hrel
      by_cases hlt : k < xs.length
      · obtain ⟨x1, x2, x3, hx⟩ := op_some hlt
        obtain ⟨c1, c2, c3⟩ := three_later hb hbl.out (HC.out k _ hx)
        simp only at c1 c2 c3
        have HS := hidden (show min (m + min (ln 4 (x1, x2, x3)) 1099511627776) 1099511627776 = cnt 4 (xs.take (k + 1)) by rw [take_snoc hx, cnt_snoc, hch.out])
        have HB := hidden (cnt_pos 4 (xs.take (k + 1)))
        have hlp := ln_pos 4 (x1, x2, x3)
        clear hx
        go_wp2_with (first | (go_at_call 13; refine (fresh_any x1 x2 x3 _).mono ?_; rintro e w' ⟨rfl, rfl⟩) | (go_at_call 19; refine (plus_any m _ _ hm0 hm1 hlp).mono ?_; rw [HS.out]; rintro e w' ⟨rfl, rfl⟩))
        go_roundw
        case rel => exact ⟨k + 1, _, by omega, HB.out.1, HB.out.2, rfl, by go_num, rfl, freshW_bel x1 x2 x3 hbl.out⟩
        case measure => simp [intOf]; omega
      · have HM := hidden (show m = cnt 4 xs by have := hch.out; rw [List.take_of_length_le (by omega)] at this; exact this)
        go_wp2_with fail
        go_ret
        exact ⟨ret_int HM.out, hbl.out⟩

set_option maxHeartbeats 1000000 in
theorem change_any (x1 x2 : Int) (x3 : Tx) (w : World) :
    Calls Try.prog 20 #[.agg #[.int .i64 x1, .int .i64 x2, .string ⟨x3.toArray⟩]] w fun e w' => e = .returned (.bool (chg (x1, x2, x3))) ∧ w' = w.alloc (opO x1 x2 x3) := by
  by_cases h3 : x1 = 3
  · subst h3
    go_enter Try.func20, Try.ntmps20
    go_wp2_with fail
    go_ret
    exact ⟨ret_bool (by simp [chg]), rfl⟩
  · have h3b : (x1 == 3) = false := by simpa using h3
    have HC := hidden (show chg (x1, x2, x3) = (x1 == 4) by simp [chg, h3])
    go_enter Try.func20, Try.ntmps20
    go_wp2_with fail
    go_ret
    exact ⟨ret_bool HC.out.symm, rfl⟩

set_option maxHeartbeats 2000000 in
theorem pchanges_any (v : Value) (xs : List Oq) (w : World) (hr : OpsAt w v xs) (hl : xs.length ≤ 4398046511104) :
    Calls Try.prog 10 #[v] w fun e w' => e = .returned (.int .i64 (chs xs : Nat)) ∧ Below w.heap.size w w' := by
  by_cases hne : xs = []
  · subst hne
    obtain ⟨ao, cap, rfl⟩ := hr.shape
    clear hr
    go_enter Try.func10, Try.ntmps10
    go_wp2_with fail
    refine wp_loop_rounds 1 ?_
    rw [rounds_succ]
    go_wp2_with fail
    go_ret
    exact ⟨rfl, Below.refl _ _⟩
  · obtain ⟨b, o, cap, rfl, hcap, hb, hc⟩ := hr.cells hne
    have HC := hidden hc
    clear hr hc hne
    go_enter Try.func10, Try.ntmps10
    go_wp2_with fail
    go_loopw [3, 4] (fun q i wr => ∃ k m : Nat, k ≤ xs.length ∧ m ≤ k ∧ q = .int .i64 m ∧ i = .int .i64 k ∧ Hid (m = chs (xs.take k)) ∧ Hid (Below w.heap.size w wr)) (fun _ i _ => xs.length - (intOf i).toNat)
    case atStart => exact ⟨0, 0, Nat.zero_le _, Nat.le_refl _, rfl, rfl, rfl, Below.refl _ _⟩
    case round =>
      obtain ⟨k, m, hk, hm, rfl, rfl, hch, hbl⟩ := hrel
      by_cases hlt : k < xs.length
      · obtain ⟨x1, x2, x3, hx⟩ := op_some hlt
        obtain ⟨c1, c2, c3⟩ := three_later hb hbl.out (HC.out k _ hx)
        simp only at c1 c2 c3
        have HX := hidden hx
        clear hx
        cases hg : chg (x1, x2, x3) with
        | true =>
          have HS := hidden (chs_on HX.out hg)
          have HG := hidden hg
          clear hg
          go_wp2_with (go_at_call 20; refine (change_any x1 x2 x3 _).mono ?_; rw [HG.out]; rintro e w' ⟨rfl, rfl⟩)
          go_roundw
          case rel => exact ⟨k + 1, m + 1, by omega, by omega, by go_num, by go_num, hidden (by rw [HS.out, hch.out]), bel_alloc hbl.out _⟩
          case measure => simp [intOf]; omega
        | false =>
          have HS := hidden (chs_off HX.out hg)
          have HG := hidden hg
          clear hg
          go_wp2_with (go_at_call 20; refine (change_any x1 x2 x3 _).mono ?_; rw [HG.out]; rintro e w' ⟨rfl, rfl⟩)
          go_roundw
          case rel => exact ⟨k + 1, m, by omega, by omega, rfl, by go_num, hidden (by rw [HS.out, hch.out]), bel_alloc hbl.out _⟩
          case measure => simp [intOf]; omega
      · have HM := hidden (show m = chs xs by have := hch.out; rw [List.take_of_length_le (by omega)] at this; exact this)
        go_wp2_with fail
        go_ret
        exact ⟨ret_int (by rw [HM.out]), hbl.out⟩

end Go.Proofs.Ytcdjemheokmglab
