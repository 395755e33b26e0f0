/-
  The law EreTimes, called with any three numbers, returns true, and nothing of what was in memory has turned; no condition.
-/
import Derived.Test.YtjeloflfhofdlaaEPutNum
import Derived.Deep.Cut
import Derived.Deep.CutRange
namespace Go.Proofs.Ytjeloflfhofdlaa
open Go.RowKit Go.Proofs.Ytjeloflfhofdlaa.Gl

/-- what is no case of the law -/
def badT (n m i : Int) : Bool := decide (n < 0) || decide (220 < n) || decide (m < 0) || decide (220 < m) || decide (i < 0) || decide (5 < i)
/-- what stands behind the letter, from, to -/
def signOf (k n m : Nat) : Tx := if k = 0 then [42] else if k = 1 then [43] else if k = 2 then [63] else if k = 3 then 123 :: (dec3 n ++ [125]) else if k = 4 then 123 :: (dec3 n ++ [44, 125]) else 123 :: (dec3 n ++ 44 :: (dec3 m ++ [125]))
def loOf (k n : Nat) : Int := if k = 0 then 0 else if k = 1 then 1 else if k = 2 then 0 else n
def hiOf (k n m : Nat) : Int := if k = 0 then -1 else if k = 1 then -1 else if k = 2 then 1 else if k = 3 then n else if k = 4 then -1 else m
/-- do the numbers fit -/
def fits (k n m : Nat) : Bool := !(decide (2 < k) && decide (200 < n) || k == 5 && (decide (200 < m) || decide (m < n)))
theorem top_fits {k n m : Nat} (hk : k ≤ 5) (hn : n ≤ 220) (hm : m ≤ 220) (h : fits k n m = true) : topE (120 :: signOf k n m) = .ok (timesN exN (loOf k n) (hiOf k n m)) ((signOf k n m).length + 1) := by
  have h1 := (dec3_is hn).2.2.1
  have h2 := (dec3_is hm).2.2.1
  have h : k = 0 ∨ k = 1 ∨ k = 2 ∨ k = 3 ∨ k = 4 ∨ k = 5 := by omega
  rcases h with rfl | rfl | rfl | rfl | rfl | rfl
  · exact top_star
  · exact top_plus
  · exact top_quest
  · have hn2 : n ≤ 200 := by simp [fits] at *; omega
    have ht := times_one hn
    rw [if_pos hn2] at ht
    have := top_brace (r := dec3 n ++ [125]) (lo := n) (hi := n) (by rw [ht]; simp) (by simp; omega) (by simp [okTimes]; omega)
    simpa [signOf, loOf, hiOf] using this
  · have hn2 : n ≤ 200 := by simp [fits] at *; omega
    have ht := times_on hn
    rw [if_pos hn2] at ht
    have := top_brace (r := dec3 n ++ [44, 125]) (lo := n) (hi := -1) (by rw [ht]; simp) (by simp; omega) (by simp [okTimes]; omega)
    simpa [signOf, loOf, hiOf] using this
  · have hn2 : n ≤ 200 ∧ m ≤ 200 ∧ n ≤ m := by simp [fits] at *; omega
    have ht := times_two hn hm
    rw [if_pos hn2] at ht
    have := top_brace (r := dec3 n ++ 44 :: (dec3 m ++ [125])) (lo := n) (hi := m) (by rw [ht]; simp; omega) (by simp; omega) (by simp [okTimes]; omega)
    simpa [signOf, loOf, hiOf] using this
theorem top_nofit {k n m : Nat} (hk : k ≤ 5) (hn : n ≤ 220) (hm : m ≤ 220) (h : fits k n m = false) : topE (120 :: signOf k n m) = .er 1 2 := by
  have h1 := (dec3_is hn).2.2.1
  have h2 := (dec3_is hm).2.2.1
  have h : k = 0 ∨ k = 1 ∨ k = 2 ∨ k = 3 ∨ k = 4 ∨ k = 5 := by omega
  rcases h with rfl | rfl | rfl | rfl | rfl | rfl
  · simp [fits] at *
  · simp [fits] at *
  · simp [fits] at *
  · have hn2 : ¬ n ≤ 200 := by simp [fits] at *; omega
    have ht := times_one hn
    rw [if_neg hn2] at ht
    exact top_brace_no ht (by simp; omega)
  · have hn2 : ¬ n ≤ 200 := by simp [fits] at *; omega
    have ht := times_on hn
    rw [if_neg hn2] at ht
    exact top_brace_no ht (by simp; omega)
  · have hn2 : ¬ (n ≤ 200 ∧ m ≤ 200 ∧ n ≤ m) := by simp [fits] at *; omega
    have ht := times_two hn hm
    rw [if_neg hn2] at ht
    exact top_brace_no ht (by simp; omega)

def pick6 (k : Nat) (b0 b1 b2 b3 b4 b5 : Value) : Value := if k = 0 then b0 else if k = 1 then b1 else if k = 2 then b2 else if k = 3 then b3 else if k = 4 then b4 else b5
theorem idx6 (k : Nat) (hk : k ≤ 5) : ∀ b0 b1 b2 b3 b4 b5 : Value, [b0, b1, b2, b3, b4, b5][k]? = some (pick6 k b0 b1 b2 b3 b4 b5) := by
  intro b0 b1 b2 b3 b4 b5
  have h : k = 0 ∨ k = 1 ∨ k = 2 ∨ k = 3 ∨ k = 4 ∨ k = 5 := by omega
  rcases h with rfl | rfl | rfl | rfl | rfl | rfl <;> rfl
theorem idx6g (k : Nat) (hk : k ≤ 5) : ∀ (b0 b1 b2 b3 b4 b5 : Value) (h : k < [b0, b1, b2, b3, b4, b5].length), [b0, b1, b2, b3, b4, b5][k]'h = pick6 k b0 b1 b2 b3 b4 b5 := fun b0 b1 b2 b3 b4 b5 _ => (List.getElem?_eq_some_iff.1 (idx6 k hk b0 b1 b2 b3 b4 b5)).2

set_option maxHeartbeats 8000000 in
set_option maxRecDepth 3000 in
theorem ereTimes_any (mn mx i : Int) (w : World) :
    Calls Try.prog 5 #[.int .i64 mn, .int .i64 mx, .int .i64 i] w fun e w' => e = .returned (.bool true) ∧ Below w.heap.size w w' := by
  go_enter Try.func5, Try.ntmps5
  go_wp2_with fail
  refine (alive_any _).mono ?_
  rintro e w1 ⟨rfl, hb1⟩
  have HB1 := hidden hb1
  clear hb1
  go_upto_region 2 with fail
  go_cut [42] from 17 to 42 (fun s wx => s = .bool (badT mn mx i) ∧ wx = w1)
  case first =>
    go_wp2_with fail
    all_goals
      go_meet
      case rel => exact ⟨by first | rfl | (congr 1; unfold badT; simp [*]; done), rfl⟩
  obtain ⟨rfl, hwc⟩ := hcut
  rw [hwc]
  clear hwc
  cases hbad : badT mn mx i with
  | true =>
    clear hbad
    go_wp2_with fail
    go_ret
    exact ⟨rfl, HB1.out⟩
  | false => ?_
  have hgood : (0 ≤ mn ∧ mn ≤ 220) ∧ (0 ≤ mx ∧ mx ≤ 220) ∧ (0 ≤ i ∧ i ≤ 5) := by
    unfold badT at hbad
    simp at hbad
    omega
  clear hbad
  obtain ⟨n, rfl⟩ := Int.eq_ofNat_of_zero_le hgood.1.1
  obtain ⟨m, rfl⟩ := Int.eq_ofNat_of_zero_le hgood.2.1.1
  obtain ⟨k, rfl⟩ := Int.eq_ofNat_of_zero_le hgood.2.2.1
  have hn : n ≤ 220 := by omega
  have hm : m ≤ 220 := by omega
  have hk : k ≤ 5 := by omega
  clear hgood
  have h1 := (dec3_is hn).2.2.1
  have h2 := (dec3_is hm).2.2.1
  go_wp2_with fail
  refine (putNum_any n _ hn).mono ?_
  rintro e w' ⟨rfl, rfl⟩
  unfold S
  go_wp2_with fail
  refine (putNum_any m _ hm).mono ?_
  rintro e w' ⟨rfl, rfl⟩
  unfold S
  have hi1 := idx6 k hk
  have hi2 := idx6g k hk
  have hki : (k : Int) < 6 := by omega
  go_upto_region 9 with fail
  have hk6 : k = 0 ∨ k = 1 ∨ k = 2 ∨ k = 3 ∨ k = 4 ∨ k = 5 := by omega
  have HK6 := hidden hk6
  clear hi1 hi2 hk6
  generalize hs1 : pick6 k (Value.string _) _ _ _ _ _ = tx
  obtain rfl : tx = S (signOf k n m) := by
    rw [← hs1]
    rcases HK6.out with rfl | rfl | rfl | rfl | rfl | rfl
    · rfl
    · rfl
    · rfl
    · show Value.string _ = S (123 :: (dec3 n ++ [125])); unfold S; congr 1
    · show Value.string _ = S (123 :: (dec3 n ++ [44, 125])); unfold S; congr 1
    · show Value.string _ = S (123 :: (dec3 n ++ 44 :: (dec3 m ++ [125]))); unfold S; congr 1; apply ByteArray.ext; simp
  clear hs1
  rw [show pick6 k (Value.int .i64 0) (Value.int .i64 1) (Value.int .i64 0) (Value.int .i64 n) (Value.int .i64 n) (Value.int .i64 n) = .int .i64 (loOf k n) by rcases HK6.out with rfl | rfl | rfl | rfl | rfl | rfl <;> rfl,
    show pick6 k (Value.int .i64 (-1)) (Value.int .i64 (-1)) (Value.int .i64 1) (Value.int .i64 n) (Value.int .i64 (-1)) (Value.int .i64 m) = .int .i64 (hiOf k n m) by rcases HK6.out with rfl | rfl | rfl | rfl | rfl | rfl <;> rfl]
  have hsl : (signOf k n m).length ≤ 100 := by
    rcases HK6.out with rfl | rfl | rfl | rfl | rfl | rfl <;> simp [signOf] <;> omega
  have HOK := hidden (fun h => top_fits hk hn hm h)
  have HNO := hidden (fun h => top_nofit hk hn hm h)
  generalize hSG : signOf k n m = sg at *
  generalize hLO : loOf k n = lo at *
  generalize hHI : hiOf k n m = hi at *
  clear hSG hLO hHI
  generalize hW3 : World.alloc (World.alloc _ _) _ = W3
  have HB3 := hidden (show Below w.heap.size w W3 by rw [← hW3]; (with_reducible (repeat (first | exact HB1.out | apply bel_alloc | apply bel_put | apply bel_set | apply Below.drew | apply below_drewN | omega))))
  clear hW3
  unfold S
  go_wp2_with fail
  rw [show (⟨#[120]⟩ : ByteArray) ++ ⟨sg.toArray⟩ = ⟨(120 :: sg).toArray⟩ from by apply ByteArray.ext; simp]
  refine (parse_any (120 :: sg) _ (by simp; omega)).mono ?_
  rintro e w4 ⟨hb4, ha4⟩
  have HB4 := hidden (HB3.out.trans (hb4.mono HB3.out.size))
  cases hf : fits k n m with
  | false =>
    rw [HNO.out hf] at ha4
    obtain ⟨rfl, _⟩ := ha4
    rw [zeroV_is]
    clear hb4
    go_upto_region 10 with fail
    generalize hW5 : World.alloc _ _ = W5
    have HB5 := hidden (show Below w.heap.size w W5 by rw [← hW5]; (with_reducible (repeat (first | exact HB4.out | apply bel_alloc | apply bel_put | apply bel_set | apply Below.drew | apply below_drewN | omega))))
    clear hW5
    go_cut [0, 1, 2, 61, 62, 68, 69, 74, 75, 102] from 84 to 102 (fun _ _ _ _ _ _ _ _ _ t wx => t = .bool (!(fits k n m)) ∧ wx = W5)
    case first =>
      go_wp2_with fail
      all_goals
        go_meet
        case rel => exact ⟨by first | rfl | (congr 1; unfold fits; rw [Bool.eq_iff_iff]; simp [*]; done) | (congr 1; unfold fits; rw [Bool.eq_iff_iff]; simp [*]; omega) | (congr 1; unfold fits; rw [Bool.eq_iff_iff]; simp; omega), rfl⟩
    obtain ⟨rfl, hwc⟩ := hcut
    rw [hwc, hf]
    clear hwc
    go_wp2_with (go_at_call 10; refine (num_any _ _).mono ?_; rintro e w' ⟨rfl, rfl⟩)
    go_ret
    exact ⟨rfl, HB5.out⟩
  | true =>
    rw [HOK.out hf] at ha4
    obtain ⟨v, rfl, hn4, _⟩ := ha4
    obtain ⟨kv, rfl, ka, kc, vs, rfl, _⟩ := NodeAt.open (show NodeAt w4 _ v (.mk 5 none_ [exN] lo hi) from hn4)
    unfold nodeV
    clear hb4
    go_upto_region 10 with fail
    generalize hW5 : World.alloc _ _ = W5
    have HB5 := hidden (show Below w.heap.size w W5 by rw [← hW5]; (with_reducible (repeat (first | exact HB4.out | apply bel_alloc | apply bel_put | apply bel_set | apply Below.drew | apply below_drewN | omega))))
    have HC5 := hidden (show Blk W5 w4.heap.size (.int .i64 5) (.int .u64 (word none_ 0)) (.int .u64 (word none_ 1)) (.int .u64 (word none_ 2)) (.int .u64 (word none_ 3)) (.slice ka 1 kc) (.int .i64 lo) (.int .i64 hi) by rw [← hW5]; exact Blk.newAt rfl)
    clear hW5
    go_cut [0, 1, 2, 61, 62, 68, 69, 74, 75, 102] from 84 to 102 (fun _ _ _ _ _ _ _ _ _ t wx => t = .bool (!(fits k n m)) ∧ wx = W5)
    case first =>
      go_wp2_with fail
      all_goals
        go_meet
        case rel => exact ⟨by first | rfl | (congr 1; unfold fits; rw [Bool.eq_iff_iff]; simp [*]; done) | (congr 1; unfold fits; rw [Bool.eq_iff_iff]; simp [*]; omega) | (congr 1; unfold fits; rw [Bool.eq_iff_iff]; simp; omega), rfl⟩
    obtain ⟨rfl, hwc⟩ := hcut
    rw [hwc, hf]
    clear hwc
    obtain ⟨c0, c1, c2, c3, c4, c5, c6, c7⟩ := HC5.out.cells
    have hcl := HC5.out.lt
    go_wp2_with (go_at_call 10; refine (num_any _ _).mono ?_; rintro e w' ⟨rfl, rfl⟩)
    go_ret
    exact ⟨rfl, HB5.out⟩

end Go.Proofs.Ytjeloflfhofdlaa
