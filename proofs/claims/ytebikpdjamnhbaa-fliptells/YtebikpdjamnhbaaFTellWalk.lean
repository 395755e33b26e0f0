
/-
  The law FlipTells answers true at whatever steps, and leaves what lay in memory as it was.
-/
import Derived.Test.YtebikpdjamnhbaaFAlive
import Derived.Test.YtebikpdjamnhbaaALaw
namespace Go.Proofs.Ytebikpdjamnhbaa
open Go.RowKit Go.Proofs.Ytebikpdjamnhbaa.Ln Go.Proofs.Ytebikpdjamnhbaa.Ol

set_option maxRecDepth 3000 in
set_option maxHeartbeats 8000000 in
theorem flipTells_any (v : Value) (xs : List Oq) (w : World) (hX : OpsAt w v xs) (hlx : xs.length ≤ 4398046511104) (hfX : Fit xs) :
    Calls Try.prog 3 #[v] w fun e w' => e = .returned (.bool true) ∧ Below w.heap.size w w' := by
  have HX0 := hidden hX
  have HB0 := hidden (Below.refl w.heap.size w)
  have HFX := hidden hfX
  obtain ⟨ao, cap, rfl⟩ := hX.shape
  clear hX hfX
  go_enter Try.func3, Try.ntmps3
  go_wp2_with fail
  refine (alive10_any _).mono ?_
  rintro e w1 ⟨rfl, hb⟩
  have HX1 := hidden (HX0.out.later hb)
  have HB1 := hidden (HB0.out.trans (hb.mono HB0.out.size))
  clear hb
  go_wp2_with fail
  refine (few_any _ xs w1 HX1.out (by omega)).mono ?_
  rintro e w' ⟨⟨c, rfl⟩, hw⟩
  subst w'
  cases c with
  | false =>
    go_wp2_with fail
    go_ret
    exact ⟨rfl, HB1.out⟩
  | true =>
    have HLN := hidden (Nat.le_trans (flN_len xs) hlx)
    have hsz := HB1.out.size
    go_wp2_with (at_builtin; go_must (refine wpList_append_ops _ (by go_simp) _ _ rfl w.heap.size (.slice none 0 0) _ [] xs rfl rfl ⟨rfl, Or.inl ⟨rfl, rfl⟩⟩ HX1.out (by simp; omega) hsz ?_; intro v8 w2 hown8 hadd8; have hb := adds_nil hadd8))
    have HO8 := hidden (OpsAt.of_owns hown8)
    rw [List.nil_append] at HO8
    clear hown8 hadd8 hsz
    have HX2 := hidden (HX1.out.later hb)
    have HB2 := hidden (HB1.out.trans (hb.mono HB1.out.size))
    clear hb
    clear HX1 HB1
    refine (flip_any _ xs w2 HO8.out hlx HFX.out).mono ?_
    rintro e w3 ⟨q1, rfl, ho, hb⟩
    clear HO8
    have HX3 := hidden (HX2.out.later hb)
    have HB3 := hidden (HB2.out.trans (hb.mono HB2.out.size))
    clear hb
    clear HX2 HB2
    have HP3 := hidden ho
    clear ho
    obtain ⟨q1a, q1n, q1c, rfl⟩ : ∃ a n c, q1 = .slice a n c := by obtain ⟨a, c, e⟩ := HP3.out.shape; exact ⟨_, _, _, e⟩
    go_wp2_with fail
    refine (pflip_any _ xs w3 HX3.out hlx HFX.out).mono ?_
    rintro e w4 ⟨q2, rfl, ho, hb⟩
    have HX4 := hidden (HX3.out.later hb)
    have HP4 := hidden (HP3.out.later hb)
    have HB4 := hidden (HB3.out.trans (hb.mono HB3.out.size))
    clear hb
    clear HX3 HP3 HB3
    have HQ4 := hidden ho
    clear ho
    obtain ⟨q2a, q2n, q2c, rfl⟩ : ∃ a n c, q2 = .slice a n c := by obtain ⟨a, c, e⟩ := HQ4.out.shape; exact ⟨_, _, _, e⟩
    go_wp2_with fail
    refine (psame_any _ _ _ _ w4 HP4.out HQ4.out HLN.out HLN.out).mono ?_
    rw [decide_eq_true (Eq.refl (flN xs))]
    rintro e w5 ⟨rfl, hb⟩
    have HX5 := hidden (HX4.out.later hb)
    have HP5 := hidden (HP4.out.later hb)
    have HQ5 := hidden (HQ4.out.later hb)
    have HB5 := hidden (HB4.out.trans (hb.mono HB4.out.size))
    clear hb
    clear HX4 HP4 HQ4 HB4
    go_wp2_with fail
    go_ret
    exact ⟨by first | rfl | simp, HB5.out⟩

end Go.Proofs.Ytebikpdjamnhbaa
