
/-
  The law TidyTells answers true at whatever steps, and leaves what lay in memory as it was.
-/
import Derived.Test.YtbbbphlojefgjaaTLaw
namespace Go.Proofs.Ytbbbphlojefgjaa
open Go.RowKit Go.Proofs.Ytbbbphlojefgjaa.Ln Go.Proofs.Ytbbbphlojefgjaa.Ol

set_option maxRecDepth 3000 in
set_option maxHeartbeats 8000000 in
theorem tidyTells_any (vX : Value) (l : List Oq) (w : World) (hX : OpsAt w vX l) (hlX : l.length ≤ 4398046511104) (hfX : Fit l) :
    Calls Try.prog 3 #[vX] w fun e w' => e = .returned (.bool true) ∧ Below w.heap.size w w' := by
  have HX0 := hidden hX
  have HB0 := hidden (Below.refl w.heap.size w)
  have HFX := hidden hfX
  obtain ⟨aX, cX, rfl⟩ := hX.shape
  clear hX hfX
  go_enter Try.func3, Try.ntmps3
  go_wp2_with fail
  refine (alive13_any _).mono ?_
  rintro e w1 ⟨rfl, hb⟩
  have HX1 := hidden (HX0.out.later hb)
  have HB1 := hidden (HB0.out.trans (hb.mono HB0.out.size))
  clear hb
  go_wp2_with fail
  refine (few_any _ l w1 HX1.out (by omega)).mono ?_
  rintro e w' ⟨⟨c, rfl⟩, hw⟩
  subst w'
  cases c with
  | false =>
    go_wp2_with fail
    go_ret
    exact ⟨rfl, HB1.out⟩
  | true =>
    have HLT := hidden (show (tdy l).length ≤ 4398046511104 from Nat.le_trans tdy_len (by decide))
    have hsz := HB1.out.size
    go_wp2_with (at_builtin; go_must (refine wpList_append_ops _ (by go_simp) _ _ rfl w.heap.size (.slice none 0 0) _ [] l rfl rfl ⟨rfl, Or.inl ⟨rfl, rfl⟩⟩ HX1.out (by simp; omega) hsz ?_; intro v8 w2 hown8 hadd8; have hb := adds_nil hadd8))
    have HO8 := hidden (OpsAt.of_owns hown8)
    rw [List.nil_append] at HO8
    clear hown8 hadd8 hsz
    have HX2 := hidden (HX1.out.later hb)
    have HB2 := hidden (HB1.out.trans (hb.mono HB1.out.size))
    clear hb
    clear HX1 HB1
    refine (tidy_any _ l w2 HO8.out hlX HFX.out).mono ?_
    rintro e w3 ⟨q1, rfl, ho, hb⟩
    clear HO8
    have HX3 := hidden (HX2.out.later hb)
    have HB3 := hidden (HB2.out.trans (hb.mono HB2.out.size))
    clear hb
    clear HX2 HB2
    have HP3 := hidden ho
    clear ho
    obtain ⟨q1a, q1n, q1c, rfl⟩ : ∃ a n c, q1 = .slice a n c := by obtain ⟨a, c, e⟩ := HP3.out.shape; exact ⟨_, _, _, e⟩
    go_wp2_with fail
    refine (ptidy_any _ l w3 HX3.out hlX HFX.out).mono ?_
    rintro e w4 ⟨q2, rfl, ho, hb⟩
    have HX4 := hidden (HX3.out.later hb)
    have HP4 := hidden (HP3.out.later hb)
    have HB4 := hidden (HB3.out.trans (hb.mono HB3.out.size))
    clear hb
    clear HX3 HP3 HB3
    have HQ4 := hidden ho
    clear ho
    obtain ⟨q2a, q2n, q2c, rfl⟩ : ∃ a n c, q2 = .slice a n c := by obtain ⟨a, c, e⟩ := HQ4.out.shape; exact ⟨_, _, _, e⟩
    go_wp2_with fail
    refine (psame_any _ _ _ _ w4 HP4.out HQ4.out HLT.out HLT.out).mono ?_
    rw [decide_eq_true (Eq.refl (tdy l))]
    rintro e w5 ⟨rfl, hb⟩
    have HX5 := hidden (HX4.out.later hb)
    have HP5 := hidden (HP4.out.later hb)
    have HQ5 := hidden (HQ4.out.later hb)
    have HB5 := hidden (HB4.out.trans (hb.mono HB4.out.size))
    clear hb
    clear HX4 HP4 HQ4 HB4
    obtain ⟨bi, hbi⟩ : ∃ b, decide (chs (tdy l) = 0) = b := ⟨_, rfl⟩
    have HBI := hidden hbi
    clear hbi
    have hbb : (bi == bi) = true := by simp
    go_wp2_with fail
    refine (idle_any _ l w5 HX5.out hlX HFX.out).mono ?_
    rw [HBI.out]
    rintro e w6 ⟨rfl, hb⟩
    have HX6 := hidden (HX5.out.later hb)
    have HP6 := hidden (HP5.out.later hb)
    have HQ6 := hidden (HQ5.out.later hb)
    have HB6 := hidden (HB5.out.trans (hb.mono HB5.out.size))
    clear hb
    clear HX5 HP5 HQ5 HB5
    go_wp2_with fail
    refine (pidle_any _ l w6 HX6.out hlX HFX.out).mono ?_
    rw [HBI.out]
    rintro e w7 ⟨rfl, hb⟩
    have HX7 := hidden (HX6.out.later hb)
    have HP7 := hidden (HP6.out.later hb)
    have HQ7 := hidden (HQ6.out.later hb)
    have HB7 := hidden (HB6.out.trans (hb.mono HB6.out.size))
    clear hb
    clear HX6 HP6 HQ6 HB6
    go_wp2_with fail
    go_ret
    exact ⟨by first | rfl | simp, HB7.out⟩

end Go.Proofs.Ytbbbphlojefgjaa
