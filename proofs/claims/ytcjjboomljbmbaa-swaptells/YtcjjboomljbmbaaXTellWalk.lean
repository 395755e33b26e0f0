
/-
  The law SwapTells answers true at whatever steps, and leaves what lay in memory as it was.
-/
import Derived.Test.YtcjjboomljbmbaaXLaw
namespace Go.Proofs.Ytcjjboomljbmbaa
open Go.RowKit Go.Proofs.Ytcjjboomljbmbaa.Ln Go.Proofs.Ytcjjboomljbmbaa.Ol

set_option maxRecDepth 3000 in
set_option maxHeartbeats 8000000 in
theorem swapTells_any (vX : Value) (p : List Oq) (vY : Value) (q : List Oq) (w : World) (hX : OpsAt w vX p) (hlX : p.length ≤ 4398046511104) (hfX : Fit p) (hY : OpsAt w vY q) (hlY : q.length ≤ 4398046511104) (hfY : Fit q) :
    Calls Try.prog 3 #[vX, vY] w fun e w' => e = .returned (.bool true) ∧ Below w.heap.size w w' := by
  have HX0 := hidden hX
  have HY0 := hidden hY
  have HB0 := hidden (Below.refl w.heap.size w)
  have HFX := hidden hfX
  obtain ⟨aX, cX, rfl⟩ := hX.shape
  clear hX hfX
  have HFY := hidden hfY
  obtain ⟨aY, cY, rfl⟩ := hY.shape
  clear hY hfY
  go_enter Try.func3, Try.ntmps3
  go_wp2_with fail
  refine (alive15_any _).mono ?_
  rintro e w1 ⟨rfl, hb⟩
  have HX1 := hidden (HX0.out.later hb)
  have HY1 := hidden (HY0.out.later hb)
  have HB1 := hidden (HB0.out.trans (hb.mono HB0.out.size))
  clear hb
  go_wp2_with fail
  refine (few_any _ p w1 HX1.out (by omega)).mono ?_
  rintro e w' ⟨⟨c, rfl⟩, hw⟩
  subst w'
  cases c with
  | false =>
    go_wp2_with fail
    go_ret
    exact ⟨rfl, HB1.out⟩
  | true =>
    go_wp2_with fail
    refine (few_any _ q w1 HY1.out (by omega)).mono ?_
    rintro e w' ⟨⟨c, rfl⟩, hw⟩
    subst w'
    cases c with
    | false =>
      go_wp2_with fail
      go_ret
      exact ⟨rfl, HB1.out⟩
    | true =>
      obtain ⟨x, y, c, hr⟩ : ∃ x y c, swp p q = (x, y, c) := ⟨_, _, _, rfl⟩
      have HLx := hidden (show x.length ≤ 4294967296 by have := (swp_len p q).1; rw [hr] at this; exact this)
      have HLy := hidden (show y.length ≤ 4294967296 by have := (swp_len p q).2; rw [hr] at this; exact this)
      have HFx := hidden (show Fit x by have := (swp_fit HFX.out HFY.out).1; rw [hr] at this; exact this)
      have HFy := hidden (show Fit y by have := (swp_fit HFX.out HFY.out).2; rw [hr] at this; exact this)
      have HR := hidden hr
      clear hr
      have hsz := HB1.out.size
      go_wp2_with (at_builtin; first
        | (refine wpList_append_ops _ (by go_simp) _ _ rfl w.heap.size (.slice none 0 0) _ [] p rfl rfl ⟨rfl, Or.inl ⟨rfl, rfl⟩⟩ HX1.out (by simp; omega) hsz ?_; intro v8 w8 hown8 hadd8; have hb8 := adds_nil hadd8)
        | (refine wpList_append_ops _ (by go_simp) _ _ rfl w.heap.size (.slice none 0 0) _ [] q rfl rfl ⟨rfl, Or.inl ⟨rfl, rfl⟩⟩ (HY1.out.later hb8) (by simp; omega) (Nat.le_trans hsz hb8.size) ?_; intro v9 w2 hown9 hadd9; have hb9 := adds_nil hadd9))
      have HO8 := hidden ((OpsAt.of_owns hown8).later hb9)
      have HO9 := hidden (OpsAt.of_owns hown9)
      rw [List.nil_append] at HO8 HO9
      have hb := hb8.trans (hb9.mono hb8.size)
      clear hown8 hown9 hadd8 hadd9 hb8 hb9 hsz
      have HX2 := hidden (HX1.out.later hb)
      have HY2 := hidden (HY1.out.later hb)
      have HB2 := hidden (HB1.out.trans (hb.mono HB1.out.size))
      clear hb
      clear HX1 HY1 HB1
      refine (swap_any _ _ p q w2 HO8.out HO9.out hlX hlY HFX.out HFY.out).mono ?_
      rintro e w3 ⟨q1, q2, rfl, ho, ho2, hb⟩
      simp only [HR.out] at ho ho2 ⊢
      clear HO8 HO9
      have HX3 := hidden (HX2.out.later hb)
      have HY3 := hidden (HY2.out.later hb)
      have HB3 := hidden (HB2.out.trans (hb.mono HB2.out.size))
      clear hb
      clear HX2 HY2 HB2
      have HP3 := hidden ho
      clear ho
      obtain ⟨q1a, q1c, rfl⟩ := HP3.out.shape
      have HQ3 := hidden ho2
      clear ho2
      obtain ⟨q2a, q2c, rfl⟩ := HQ3.out.shape
      go_wp2_with fail
      refine (pswap_any _ _ p q w3 HX3.out HY3.out hlX hlY HFX.out HFY.out).mono ?_
      rintro e w4 ⟨q3, q4, rfl, ho, ho2, hb⟩
      simp only [HR.out] at ho ho2 ⊢
      have HX4 := hidden (HX3.out.later hb)
      have HY4 := hidden (HY3.out.later hb)
      have HP4 := hidden (HP3.out.later hb)
      have HQ4 := hidden (HQ3.out.later hb)
      have HB4 := hidden (HB3.out.trans (hb.mono HB3.out.size))
      clear hb
      clear HX3 HY3 HP3 HQ3 HB3
      have HS4 := hidden ho
      clear ho
      obtain ⟨q3a, q3c, rfl⟩ := HS4.out.shape
      have HT4 := hidden ho2
      clear ho2
      obtain ⟨q4a, q4c, rfl⟩ := HT4.out.shape
      go_wp2_with fail
      refine (psame_any _ _ x x w4 HP4.out HS4.out (by have := HLx.out; omega) (by have := HLx.out; omega)).mono ?_
      rw [decide_eq_true (Eq.refl x)]
      rintro e w5 ⟨rfl, hb⟩
      have HX5 := hidden (HX4.out.later hb)
      have HY5 := hidden (HY4.out.later hb)
      have HP5 := hidden (HP4.out.later hb)
      have HQ5 := hidden (HQ4.out.later hb)
      have HS5 := hidden (HS4.out.later hb)
      have HT5 := hidden (HT4.out.later hb)
      have HB5 := hidden (HB4.out.trans (hb.mono HB4.out.size))
      clear hb
      clear HX4 HY4 HP4 HQ4 HS4 HT4 HB4
      go_wp2_with fail
      refine (psame_any _ _ y y w5 HQ5.out HT5.out (by have := HLy.out; omega) (by have := HLy.out; omega)).mono ?_
      rw [decide_eq_true (Eq.refl y)]
      rintro e w6 ⟨rfl, hb⟩
      have HX6 := hidden (HX5.out.later hb)
      have HY6 := hidden (HY5.out.later hb)
      have HP6 := hidden (HP5.out.later hb)
      have HQ6 := hidden (HQ5.out.later hb)
      have HS6 := hidden (HS5.out.later hb)
      have HT6 := hidden (HT5.out.later hb)
      have HB6 := hidden (HB5.out.trans (hb.mono HB5.out.size))
      clear hb
      clear HX5 HY5 HP5 HQ5 HS5 HT5 HB5
      go_wp2_with fail
      refine (num15_any _ _).mono ?_
      rintro e w' ⟨rfl, hw⟩
      subst w'
      have hcc : (c == c) = true := by simp
      go_wp2_with fail
      go_ret
      exact ⟨by first | rfl | simp, HB6.out⟩

end Go.Proofs.Ytcjjboomljbmbaa
