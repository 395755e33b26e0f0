/-
  The law EreWrong, called with any number, returns true, and nothing of what was in memory has turned; no condition.
-/
import Derived.Test.YtjeloflfhofdlaaEWrongTab
namespace Go.Proofs.Ytjeloflfhofdlaa
open Go.RowKit Go.Proofs.Ytjeloflfhofdlaa.Gl

theorem parse_code (p : Tx) (w : World) (a c : Int) (hp : p.length ≤ 1048576) (h : codeR (topE p) = (a, c)) :
    Calls Try.prog 9 #[S p] w fun e w' => (∃ (z y0 y1 y2 y3 : Int) (sa : Option Addr) (sn sc : Nat) (lo hi : Int), e = .returned (.tuple #[.agg #[.int .i64 z, .int .u64 y0, .int .u64 y1, .int .u64 y2, .int .u64 y3, .slice sa sn sc, .int .i64 lo, .int .i64 hi], .int .i64 a, .int .i64 c])) ∧ Below w.heap.size w w' := by
  refine (parse_any p w hp).mono ?_
  rintro e w' ⟨hb, ha⟩
  refine ⟨?_, hb⟩
  cases ht : topE p with
  | ok x m =>
    rw [ht] at h ha
    obtain ⟨v, rfl, hn, _⟩ := ha
    obtain ⟨z, y0, y1, y2, y3, sa, sn, sc, lo, hi, rfl⟩ := hn.shapeI
    cases h
    exact ⟨_, _, _, _, _, _, _, _, _, _, rfl⟩
  | er m d =>
    rw [ht] at h ha
    obtain ⟨rfl, _⟩ := ha
    cases h
    exact ⟨_, _, _, _, _, _, _, _, _, _, rfl⟩

set_option maxHeartbeats 1000000 in
theorem ereWrong_out (i : Int) (w : World) (hout : i < 0 ∨ 41 ≤ i) : Calls Try.prog 6 #[.int .i64 i] w fun e w' => e = .returned (.bool true) ∧ Below w.heap.size w w' := by
  rcases hout with h | h
  all_goals
    go_enter Try.func6, Try.ntmps6
    go_wp2_with fail
    refine (alive_any _).mono ?_
    rintro e w1 ⟨rfl, hb1⟩
    have HB1 := hidden hb1
    clear hb1
    go_wp2_with fail
    go_ret
    exact ⟨rfl, by (with_reducible (repeat (first | exact HB1.out | apply bel_alloc | apply bel_put | apply bel_set | apply Below.drew | apply below_drewN | omega)))⟩

set_option maxHeartbeats 4000000 in
theorem ereWrong_in (k : Nat) (w : World) (hk : k < 41) : Calls Try.prog 6 #[.int .i64 k] w fun e w' => e = .returned (.bool true) ∧ Below w.heap.size w w' := by
  obtain ⟨t, a, c, ht, hm, hr, hh, hlt⟩ := tab_at k hk
  have Hx := hidden (And.intro ht (And.intro hm hr))
  have HH := hidden hh
  have hki : (k : Int) < 41 := by omega
  clear ht hm hr hh
  go_enter Try.func6, Try.ntmps6
  go_wp2_with fail
  refine (alive_any _).mono ?_
  rintro e w1 ⟨rfl, hb1⟩
  have HB1 := hidden hb1
  clear hb1
  have hL := (wrong_L w1 k).trans Hx.out.1
  have hA := (wrong_A w1 k).trans Hx.out.2.1
  have hE := (wrong_E w1 k).trans Hx.out.2.2
  have hbe := wrong_below w1
  have hze := wrong_size w1
  obtain ⟨W, hW⟩ : ∃ W, wrongWorld w1 = W := ⟨_, rfl⟩
  rw [hW] at hL hA hE hbe hze
  unfold wrongWorld tabL tabA tabE at hW
  have HW := hidden hW
  clear hW
  go_upto_region 5 with fail
  rw [HW.out]
  have HBW : Hid (Below w.heap.size w W) := HB1.out.trans (hbe.mono HB1.out.size)
  have hzz : w1.heap.size + 1 + 1 < W.heap.size := by omega
  clear HW hbe hze
  generalize w1.heap.size = bb at *
  clear HB1
  go_wp2_with fail
  refine (parse_code t _ a c hlt HH.out).mono ?_
  rintro e w2 ⟨⟨z, y0, y1, y2, y3, sa, sn, sc, lo, hi, rfl⟩, hb2⟩
  have hA2 : w2.cell? ⟨bb + 1, k, none⟩ = some (.int .i64 a) := (hb2.cell (p := ⟨bb + 1, k, none⟩) (by show bb + 1 < _; omega)).trans hA
  have hE2 : w2.cell? ⟨bb + 1 + 1, k, none⟩ = some (.int .i64 c) := (hb2.cell (p := ⟨bb + 1 + 1, k, none⟩) (by show bb + 1 + 1 < _; omega)).trans hE
  have hs2 : bb + 1 + 1 < w2.heap.size := Nat.lt_of_lt_of_le hzz hb2.size
  have HB2 := hidden (HBW.out.trans (hb2.mono HBW.out.size))
  have haa : (a == a) = true := by simp
  have hcc : (c == c) = true := by simp
  clear hb2 hL hA hE HBW hzz
  have hs3 : bb + 1 < w2.heap.size := by omega
  go_upto_region 8 with fail
  generalize hW3 : World.alloc w2 _ = W3
  have hA3 : W3.cell? ⟨bb + 1, k, none⟩ = some (.int .i64 a) := by rw [← hW3]; exact (((Below.refl _ w2).alloc (Nat.le_refl _) _).cell (p := ⟨bb + 1, k, none⟩) hs3).trans hA2
  have hE3 : W3.cell? ⟨bb + 1 + 1, k, none⟩ = some (.int .i64 c) := by rw [← hW3]; exact (((Below.refl _ w2).alloc (Nat.le_refl _) _).cell (p := ⟨bb + 1 + 1, k, none⟩) hs2).trans hE2
  have HB3 := hidden (show Below w.heap.size w W3 by rw [← hW3]; exact HB2.out.alloc HB2.out.size _)
  clear hW3 hA2 hE2 HB2
  go_quiet ((go_at_call 10; exact Calls.quiet_of_same (num_any _ _)))
  go_wp2
  go_ret
  exact ⟨by simp, by (with_reducible (repeat (first | exact HB3.out | apply bel_alloc | apply bel_put | apply bel_set | apply Below.drew | apply below_drewN | omega)))⟩

theorem ereWrong_any (i : Int) (w : World) : Calls Try.prog 6 #[.int .i64 i] w fun e w' => e = .returned (.bool true) ∧ Below w.heap.size w w' := by
  by_cases h : i < 0 ∨ 41 ≤ i
  · exact ereWrong_out i w h
  · obtain ⟨k, rfl⟩ := Int.eq_ofNat_of_zero_le (show 0 ≤ i by omega)
    exact ereWrong_in k w (by omega)

end Go.Proofs.Ytjeloflfhofdlaa
