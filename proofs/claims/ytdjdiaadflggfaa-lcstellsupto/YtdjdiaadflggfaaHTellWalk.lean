
/-
  The law LcsTells answers true at whatever lines of at most 1048576 lines and bytes, and leaves what lay in memory as it was.
-/
import Derived.Test.YtdjdiaadflggfaaBDiff
namespace Go.Proofs.Ytdjdiaadflggfaa
open Go.RowKit Go.Proofs.Ytdjdiaadflggfaa.Ln Go.Proofs.Ytdjdiaadflggfaa.Ol

set_option maxRecDepth 3000 in
set_option maxHeartbeats 8000000 in
theorem lcsTells_any (vX : Value) (a : List Tx) (vY : Value) (b : List Tx) (w : World) (hX : RowAt w vX a) (hlX : a.length ≤ 1048576) (hnX : a.flatten.length ≤ 1048576) (hY : RowAt w vY b) (hlY : b.length ≤ 1048576) (hnY : b.flatten.length ≤ 1048576) :
    Calls Try.prog 3 #[vX, vY] w fun e w' => e = .returned (.bool true) ∧ Below w.heap.size w w' := by
  have HX0 := hidden hX
  have HY0 := hidden hY
  have HB0 := hidden (Below.refl w.heap.size w)
  have HNX := hidden hnX
  have HFX := hidden (fitT_flat hnX)
  obtain ⟨aX, cX, rfl⟩ := hX.shape
  clear hX hnX
  have HNY := hidden hnY
  have HFY := hidden (fitT_flat hnY)
  obtain ⟨aY, cY, rfl⟩ := hY.shape
  clear hY hnY
  go_enter Try.func3, Try.ntmps3
  go_wp2_with fail
  refine (alive12_any _).mono ?_
  rintro e w1 ⟨rfl, hb⟩
  have HX1 := hidden (HX0.out.later hb)
  have HY1 := hidden (HY0.out.later hb)
  have HB1 := hidden (HB0.out.trans (hb.mono HB0.out.size))
  clear hb
  go_wp2_with fail
  refine (short_any _ a w1 HX1.out (by omega) (by have := HNX.out; omega)).mono ?_
  rintro e w2 ⟨⟨c, rfl⟩, hb⟩
  have HX2 := hidden (HX1.out.later hb)
  have HY2 := hidden (HY1.out.later hb)
  have HB2 := hidden (HB1.out.trans (hb.mono HB1.out.size))
  clear hb
  clear HX1 HY1 HB1
  cases c with
  | false =>
    go_wp2_with fail
    go_ret
    exact ⟨rfl, HB2.out⟩
  | true =>
    go_wp2_with fail
    refine (short_any _ b w2 HY2.out (by omega) (by have := HNY.out; omega)).mono ?_
    rintro e w3 ⟨⟨c, rfl⟩, hb⟩
    have HX3 := hidden (HX2.out.later hb)
    have HY3 := hidden (HY2.out.later hb)
    have HB3 := hidden (HB2.out.trans (hb.mono HB2.out.size))
    clear hb
    clear HX2 HY2 HB2
    cases c with
    | false =>
      go_wp2_with fail
      go_ret
      exact ⟨rfl, HB3.out⟩
    | true =>
      by_cases hsX : a.length ≤ 60
      case neg =>
        have hd1 : decide ((a.length : Int) > 60) = true := by simp; omega
        have hd2 : decide (60 < (a.length : Int)) = true := by simp; omega
        have hd3 : decide (60 < a.length) = true := by simp; omega
        clear hsX
        go_wp2_with fail
        go_ret
        exact ⟨by first | rfl | simp, HB3.out⟩
      case pos =>
      have hdX1 : decide ((a.length : Int) > 60) = false := by simp; omega
      have hdX2 : decide (60 < (a.length : Int)) = false := by simp; omega
      have hdX3 : decide (60 < a.length) = false := by simp; omega
      by_cases hsY : b.length ≤ 60
      case neg =>
        have hd1 : decide ((b.length : Int) > 60) = true := by simp; omega
        have hd2 : decide (60 < (b.length : Int)) = true := by simp; omega
        have hd3 : decide (60 < b.length) = true := by simp; omega
        clear hsY
        go_wp2_with fail
        go_ret
        exact ⟨by first | rfl | simp, HB3.out⟩
      case pos =>
      have hdY1 : decide ((b.length : Int) > 60) = false := by simp; omega
      have hdY2 : decide (60 < (b.length : Int)) = false := by simp; omega
      have hdY3 : decide (60 < b.length) = false := by simp; omega
      obtain ⟨z, hz⟩ : ∃ z, lc a b = z := ⟨_, rfl⟩
      have HZ := hidden hz
      have HLD := hidden (show (df a b).length ≤ 4398046511104 by have := df_len_le a b; omega)
      have ez : ((z : Int) == z) = true := by simp
      clear hz
      go_wp2_with fail
      refine (lcslen_any _ _ a b w3 HX3.out HY3.out (by omega) (by omega) HFX.out HFY.out).mono ?_
      rw [HZ.out]
      rintro e w4 ⟨rfl, hb⟩
      have HX4 := hidden (HX3.out.later hb)
      have HY4 := hidden (HY3.out.later hb)
      have HB4 := hidden (HB3.out.trans (hb.mono HB3.out.size))
      clear hb
      clear HX3 HY3 HB3
      go_wp2_with fail
      refine (plcslen_any _ _ a b w4 HX4.out HY4.out (by omega) (by omega)).mono ?_
      rw [HZ.out]
      rintro e w5 ⟨rfl, hb⟩
      have HX5 := hidden (HX4.out.later hb)
      have HY5 := hidden (HY4.out.later hb)
      have HB5 := hidden (HB4.out.trans (hb.mono HB4.out.size))
      clear hb
      clear HX4 HY4 HB4
      have hsz := HB5.out.size
      go_wp2_with (at_builtin; first
        | (refine wpList_append_txt _ (by go_simp) _ _ rfl w.heap.size (.slice none 0 0) _ [] a rfl rfl ⟨rfl, Or.inl ⟨rfl, rfl⟩⟩ HX5.out (by simp; omega) hsz ?_; intro v8 w8 hown8 hadd8; have hb8 := adds_nil hadd8)
        | (refine wpList_append_txt _ (by go_simp) _ _ rfl w.heap.size (.slice none 0 0) _ [] b rfl rfl ⟨rfl, Or.inl ⟨rfl, rfl⟩⟩ (HY5.out.later hb8) (by simp; omega) (Nat.le_trans hsz hb8.size) ?_; intro v9 w6 hown9 hadd9; have hb9 := adds_nil hadd9))
      have HO8 := hidden ((RowAt.of_owns hown8).later hb9)
      have HO9 := hidden (RowAt.of_owns hown9)
      rw [List.nil_append] at HO8 HO9
      have hb := hb8.trans (hb9.mono hb8.size)
      clear hown8 hown9 hadd8 hadd9 hb8 hb9 hsz
      have HX6 := hidden (HX5.out.later hb)
      have HY6 := hidden (HY5.out.later hb)
      have HB6 := hidden (HB5.out.trans (hb.mono HB5.out.size))
      clear hb
      clear HX5 HY5 HB5
      refine (lcsdiff_any _ _ a b w6 HO8.out HO9.out (by omega) (by omega) HFX.out HFY.out).mono ?_
      rintro e w7 ⟨q1, rfl, ho, hb⟩
      clear HO8 HO9
      have HX7 := hidden (HX6.out.later hb)
      have HY7 := hidden (HY6.out.later hb)
      have HB7 := hidden (HB6.out.trans (hb.mono HB6.out.size))
      clear hb
      clear HX6 HY6 HB6
      have HP7 := hidden ho
      clear ho
      obtain ⟨q1a, q1n, q1c, rfl⟩ : ∃ a n c, q1 = .slice a n c := by obtain ⟨a, c, e⟩ := HP7.out.shape; exact ⟨_, _, _, e⟩
      go_wp2_with fail
      refine (plcsdiff_any _ _ a b w7 HX7.out HY7.out (by omega) (by omega)).mono ?_
      rintro e w8 ⟨q2, rfl, ho, hb⟩
      have HX8 := hidden (HX7.out.later hb)
      have HY8 := hidden (HY7.out.later hb)
      have HP8 := hidden (HP7.out.later hb)
      have HB8 := hidden (HB7.out.trans (hb.mono HB7.out.size))
      clear hb
      clear HX7 HY7 HP7 HB7
      have HQ8 := hidden ho
      clear ho
      obtain ⟨q2a, q2n, q2c, rfl⟩ : ∃ a n c, q2 = .slice a n c := by obtain ⟨a, c, e⟩ := HQ8.out.shape; exact ⟨_, _, _, e⟩
      go_wp2_with fail
      refine (psame_any _ _ _ _ w8 HP8.out HQ8.out HLD.out HLD.out).mono ?_
      rw [decide_eq_true (Eq.refl (df a b))]
      rintro e w9 ⟨rfl, hb⟩
      have HX9 := hidden (HX8.out.later hb)
      have HY9 := hidden (HY8.out.later hb)
      have HP9 := hidden (HP8.out.later hb)
      have HQ9 := hidden (HQ8.out.later hb)
      have HB9 := hidden (HB8.out.trans (hb.mono HB8.out.size))
      clear hb
      clear HX8 HY8 HP8 HQ8 HB8
      go_wp2_with fail
      go_ret
      exact ⟨by first | rfl | simp, HB9.out⟩

end Go.Proofs.Ytdjdiaadflggfaa
