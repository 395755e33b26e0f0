
/-
  The law InterTells answers true at whatever steps, and leaves what lay in memory as it was.
-/
import Derived.Test.YtmbalnjobcgpkaaJLaw
namespace Go.Proofs.Ytmbalnjobcgpkaa
open Go.RowKit Go.Proofs.Ytmbalnjobcgpkaa.Ln Go.Proofs.Ytmbalnjobcgpkaa.Ol

set_option maxRecDepth 3000 in
set_option maxHeartbeats 8000000 in
theorem interTells_any (vX : Value) (p : List Oq) (vY : Value) (q : List Oq) (w : World) (hX : OpsAt w vX p) (hlX : p.length ≤ 4398046511104) (hfX : Fit p) (hY : OpsAt w vY q) (hlY : q.length ≤ 4398046511104) (hfY : Fit q) :
    Calls Try.prog 3 #[vX, vY] w fun e w' => e = .returned (.bool true) ∧ Below w.heap.size w w' := by
  have HX0 := hidden hX
  have HY0 := hidden hY
  have HB0 := hidden (Below.refl w.heap.size w)
  have HFX := hidden hfX
  obtain ⟨aX, cX, rfl⟩ := hX.shape
  clear hX hfX
  have HFY := hidden hfY
  obtain ⟨aY, cY, rfl⟩ := hY.shape
  clear hY hfY
  go_enter Try.func3, Try.ntmps3
  go_wp2_with fail
  refine (alive14_any _).mono ?_
  rintro e w1 ⟨rfl, hb⟩
  have HX1 := hidden (HX0.out.later hb)
  have HY1 := hidden (HY0.out.later hb)
  have HB1 := hidden (HB0.out.trans (hb.mono HB0.out.size))
  clear hb
  go_wp2_with fail
  refine (few_any _ p w1 HX1.out (by omega)).mono ?_
  rintro e w' ⟨⟨c, rfl⟩, hw⟩
  subst w'
  cases c with
  | false =>
    go_wp2_with fail
    go_ret
    exact ⟨rfl, HB1.out⟩
  | true =>
    go_wp2_with fail
    refine (few_any _ q w1 HY1.out (by omega)).mono ?_
    rintro e w' ⟨⟨c, rfl⟩, hw⟩
    subst w'
    cases c with
    | false =>
      go_wp2_with fail
      go_ret
      exact ⟨rfl, HB1.out⟩
    | true =>
      obtain ⟨r, hr⟩ : ∃ r, itr p q = r := ⟨_, rfl⟩
      have HLR := hidden (show (r.getD []).length ≤ 4398046511104 by have := itrD_len p q; rw [hr] at this; omega)
      have HR := hidden hr
      clear hr
      have hsz := HB1.out.size
      go_wp2_with (at_builtin; first
        | (refine wpList_append_ops _ (by go_simp) _ _ rfl w.heap.size (.slice none 0 0) _ [] p rfl rfl ⟨rfl, Or.inl ⟨rfl, rfl⟩⟩ HX1.out (by simp; omega) hsz ?_; intro v8 w8 hown8 hadd8; have hb8 := adds_nil hadd8)
        | (refine wpList_append_ops _ (by go_simp) _ _ rfl w.heap.size (.slice none 0 0) _ [] q rfl rfl ⟨rfl, Or.inl ⟨rfl, rfl⟩⟩ (HY1.out.later hb8) (by simp; omega) (Nat.le_trans hsz hb8.size) ?_; intro v9 w2 hown9 hadd9; have hb9 := adds_nil hadd9))
      have HO8 := hidden ((OpsAt.of_owns hown8).later hb9)
      have HO9 := hidden (OpsAt.of_owns hown9)
      rw [List.nil_append] at HO8 HO9
      have hb := hb8.trans (hb9.mono hb8.size)
      clear hown8 hown9 hadd8 hadd9 hb8 hb9 hsz
      have HX2 := hidden (HX1.out.later hb)
      have HY2 := hidden (HY1.out.later hb)
      have HB2 := hidden (HB1.out.trans (hb.mono HB1.out.size))
      clear hb
      clear HX1 HY1 HB1
      refine (inter_any _ _ p q w2 HO8.out HO9.out hlX hlY HFX.out HFY.out).mono ?_
      rw [HR.out]
      rintro e w3 ⟨q1, rfl, ho, hb⟩
      clear HO8 HO9
      have HX3 := hidden (HX2.out.later hb)
      have HY3 := hidden (HY2.out.later hb)
      have HB3 := hidden (HB2.out.trans (hb.mono HB2.out.size))
      clear hb
      clear HX2 HY2 HB2
      have HP3 := hidden ho
      clear ho
      obtain ⟨q1a, q1n, q1c, rfl⟩ : ∃ a n c, q1 = .slice a n c := by obtain ⟨a, c, e⟩ := HP3.out.shape; exact ⟨_, _, _, e⟩
      obtain ⟨b, hb0⟩ : ∃ b, r.isSome = b := ⟨_, rfl⟩
      have HB9 := hidden hb0
      rw [hb0]
      clear hb0
      go_wp2_with fail
      refine (pinter_any _ _ p q w3 HX3.out HY3.out hlX hlY HFX.out HFY.out).mono ?_
      rw [HR.out, HB9.out]
      rintro e w4 ⟨q2, rfl, ho, hb⟩
      have HX4 := hidden (HX3.out.later hb)
      have HY4 := hidden (HY3.out.later hb)
      have HP4 := hidden (HP3.out.later hb)
      have HB4 := hidden (HB3.out.trans (hb.mono HB3.out.size))
      clear hb
      clear HX3 HY3 HP3 HB3
      have HQ4 := hidden ho
      clear ho
      obtain ⟨q2a, q2n, q2c, rfl⟩ : ∃ a n c, q2 = .slice a n c := by obtain ⟨a, c, e⟩ := HQ4.out.shape; exact ⟨_, _, _, e⟩
      go_wp2_with fail
      refine (psame_any _ _ _ _ w4 HP4.out HQ4.out HLR.out HLR.out).mono ?_
      rw [decide_eq_true (Eq.refl (r.getD []))]
      rintro e w5 ⟨rfl, hb⟩
      have HX5 := hidden (HX4.out.later hb)
      have HY5 := hidden (HY4.out.later hb)
      have HP5 := hidden (HP4.out.later hb)
      have HQ5 := hidden (HQ4.out.later hb)
      have HB5 := hidden (HB4.out.trans (hb.mono HB4.out.size))
      clear hb
      clear HX4 HY4 HP4 HQ4 HB4
      have hbb : (b == b) = true := by simp
      go_wp2_with fail
      go_ret
      exact ⟨by first | rfl | simp, HB5.out⟩

end Go.Proofs.Ytmbalnjobcgpkaa
