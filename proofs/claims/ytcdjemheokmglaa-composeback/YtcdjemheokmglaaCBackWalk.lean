
/-
  The law ComposeBack answers true at whatever steps, and leaves what lay in memory as it was.
-/
import Derived.Test.YtcdjemheokmglaaCLaw
namespace Go.Proofs.Ytcdjemheokmglaa
open Go.RowKit Go.Proofs.Ytcdjemheokmglaa.Ln Go.Proofs.Ytcdjemheokmglaa.Ol

set_option maxRecDepth 3000 in
set_option maxHeartbeats 8000000 in
theorem composeBack_any (vX : Value) (p : List Oq) (vY : Value) (q : List Oq) (w : World) (hX : OpsAt w vX p) (hlX : p.length ≤ 4398046511104) (hfX : Fit p) (hY : OpsAt w vY q) (hlY : q.length ≤ 4398046511104) (hfY : Fit q) :
    Calls Try.prog 8 #[vX, vY] w fun e w' => e = .returned (.bool true) ∧ Below w.heap.size w w' := by
  have HX0 := hidden hX
  have HY0 := hidden hY
  have HB0 := hidden (Below.refl w.heap.size w)
  have HFX := hidden hfX
  obtain ⟨aX, cX, rfl⟩ := hX.shape
  clear hX hfX
  have HFY := hidden hfY
  obtain ⟨aY, cY, rfl⟩ := hY.shape
  clear hY hfY
  go_enter Try.func8, Try.ntmps8
  go_wp2_with fail
  refine (alive11_any _).mono ?_
  rintro e w1 ⟨rfl, hb⟩
  have HX1 := hidden (HX0.out.later hb)
  have HY1 := hidden (HY0.out.later hb)
  have HB1 := hidden (HB0.out.trans (hb.mono HB0.out.size))
  clear hb
  go_wp2_with fail
  refine (few_any _ p w1 HX1.out (by omega)).mono ?_
  rintro e w' ⟨⟨c, rfl⟩, hw⟩
  subst w'
  cases c with
  | false =>
    go_wp2_with fail
    go_ret
    exact ⟨rfl, HB1.out⟩
  | true =>
    go_wp2_with fail
    refine (few_any _ q w1 HY1.out (by omega)).mono ?_
    rintro e w' ⟨⟨c, rfl⟩, hw⟩
    subst w'
    cases c with
    | false =>
      go_wp2_with fail
      go_ret
      exact ⟨rfl, HB1.out⟩
    | true =>
      cases hrtX : right p with
      | false =>
        have HRX := hidden hrtX
        clear hrtX
        go_wp2_with fail
        refine (pright_any _ p w1 HX1.out (by omega) HFX.out).mono ?_
        rw [HRX.out]
        rintro e w2 ⟨rfl, hb⟩
        have HX2 := hidden (HX1.out.later hb)
        have HY2 := hidden (HY1.out.later hb)
        have HB2 := hidden (HB1.out.trans (hb.mono HB1.out.size))
        clear hb
        clear HX1 HY1 HB1
        go_wp2_with fail
        go_ret
        exact ⟨by first | rfl | simp, HB2.out⟩
      | true =>
        have HRX := hidden hrtX
        clear hrtX
        go_wp2_with fail
        refine (pright_any _ p w1 HX1.out (by omega) HFX.out).mono ?_
        rw [HRX.out]
        rintro e w2 ⟨rfl, hb⟩
        have HX2 := hidden (HX1.out.later hb)
        have HY2 := hidden (HY1.out.later hb)
        have HB2 := hidden (HB1.out.trans (hb.mono HB1.out.size))
        clear hb
        clear HX1 HY1 HB1
        cases hrtY : right q with
        | false =>
          have HRY := hidden hrtY
          clear hrtY
          go_wp2_with fail
          refine (pright_any _ q w2 HY2.out (by omega) HFY.out).mono ?_
          rw [HRY.out]
          rintro e w3 ⟨rfl, hb⟩
          have HX3 := hidden (HX2.out.later hb)
          have HY3 := hidden (HY2.out.later hb)
          have HB3 := hidden (HB2.out.trans (hb.mono HB2.out.size))
          clear hb
          clear HX2 HY2 HB2
          go_wp2_with fail
          go_ret
          exact ⟨by first | rfl | simp, HB3.out⟩
        | true =>
          have HRY := hidden hrtY
          clear hrtY
          go_wp2_with fail
          refine (pright_any _ q w2 HY2.out (by omega) HFY.out).mono ?_
          rw [HRY.out]
          rintro e w3 ⟨rfl, hb⟩
          have HX3 := hidden (HX2.out.later hb)
          have HY3 := hidden (HY2.out.later hb)
          have HB3 := hidden (HB2.out.trans (hb.mono HB2.out.size))
          clear hb
          clear HX2 HY2 HB2
          obtain ⟨r, hr⟩ : ∃ r, thn p q = r := ⟨_, rfl⟩
          have HR := hidden hr
          have HRF := hidden (show thn (flN q) (flN p) = r.map flN by rw [← hr]; exact thn_flip HRX.out HRY.out)
          have HFX2 := hidden (flN_fitC HFX.out)
          have HFY2 := hidden (flN_fitC HFY.out)
          have HLX2 := hidden (show (flN p).length ≤ 4398046511104 from Nat.le_trans (flN_lenC p) hlX)
          have HLY2 := hidden (show (flN q).length ≤ 4398046511104 from Nat.le_trans (flN_lenC q) hlY)
          clear hr
          go_wp2_with fail
          refine (then_any _ _ p q w3 HX3.out HY3.out (by omega) (by omega) HFX.out HFY.out).mono ?_
          rw [HR.out]
          rintro e w4 ⟨q1, rfl, ho, hb⟩
          have HX4 := hidden (HX3.out.later hb)
          have HY4 := hidden (HY3.out.later hb)
          have HB4 := hidden (HB3.out.trans (hb.mono HB3.out.size))
          clear hb
          clear HX3 HY3 HB3
          have HA4 := hidden ho
          clear ho
          obtain ⟨q1a, q1n, q1c, rfl⟩ : ∃ a n c, q1 = .slice a n c := by obtain ⟨a, c, e⟩ := HA4.out.shape; exact ⟨_, _, _, e⟩
          go_wp2_with fail
          refine (pflip_any _ q w4 HY4.out (by omega) HFY.out).mono ?_
          rintro e w5 ⟨q2, rfl, ho, hb⟩
          have HX5 := hidden (HX4.out.later hb)
          have HY5 := hidden (HY4.out.later hb)
          have HA5 := hidden (HA4.out.later hb)
          have HB5 := hidden (HB4.out.trans (hb.mono HB4.out.size))
          clear hb
          clear HX4 HY4 HA4 HB4
          have HP5 := hidden ho
          clear ho
          obtain ⟨q2a, q2n, q2c, rfl⟩ : ∃ a n c, q2 = .slice a n c := by obtain ⟨a, c, e⟩ := HP5.out.shape; exact ⟨_, _, _, e⟩
          go_wp2_with fail
          refine (pflip_any _ p w5 HX5.out (by omega) HFX.out).mono ?_
          rintro e w6 ⟨q3, rfl, ho, hb⟩
          have HX6 := hidden (HX5.out.later hb)
          have HY6 := hidden (HY5.out.later hb)
          have HA6 := hidden (HA5.out.later hb)
          have HP6 := hidden (HP5.out.later hb)
          have HB6 := hidden (HB5.out.trans (hb.mono HB5.out.size))
          clear hb
          clear HX5 HY5 HA5 HP5 HB5
          have HQ6 := hidden ho
          clear ho
          obtain ⟨q3a, q3n, q3c, rfl⟩ : ∃ a n c, q3 = .slice a n c := by obtain ⟨a, c, e⟩ := HQ6.out.shape; exact ⟨_, _, _, e⟩
          go_wp2_with fail
          refine (then_any _ _ (flN q) (flN p) w6 HP6.out HQ6.out HLY2.out HLX2.out HFY2.out HFX2.out).mono ?_
          rw [HRF.out]
          rintro e w7 ⟨q4, rfl, ho, hb⟩
          have HX7 := hidden (HX6.out.later hb)
          have HY7 := hidden (HY6.out.later hb)
          have HA7 := hidden (HA6.out.later hb)
          have HP7 := hidden (HP6.out.later hb)
          have HQ7 := hidden (HQ6.out.later hb)
          have HB7 := hidden (HB6.out.trans (hb.mono HB6.out.size))
          clear hb
          clear HX6 HY6 HA6 HP6 HQ6 HB6
          have HC7 := hidden ho
          clear ho
          obtain ⟨q4a, q4n, q4c, rfl⟩ : ∃ a n c, q4 = .slice a n c := by obtain ⟨a, c, e⟩ := HC7.out.shape; exact ⟨_, _, _, e⟩
          cases r with
          | none =>
            simp only [Option.map_none, Option.isSome_none]
            go_wp2_with fail
            go_ret
            exact ⟨by first | rfl | simp, HB7.out⟩
          | some l =>
            simp only [Option.map_some, Option.isSome_some]
            have HA9 := hidden (show OpsAt w7 _ l from HA7.out)
            have HC9 := hidden (show OpsAt w7 _ (flN l) from HC7.out)
            clear HA7 HC7
            have HLL := hidden (show l.length ≤ 4398046511104 by have := thn_len HR.out; omega)
            have HFL := hidden (thn_fit HFX.out HFY.out HR.out)
            have HLF := hidden (show (flN l).length ≤ 4398046511104 from Nat.le_trans (flN_lenC l) HLL.out)
            go_wp2_with fail
            refine (pflip_any _ l w7 HA9.out HLL.out HFL.out).mono ?_
            rintro e w8 ⟨q5, rfl, ho, hb⟩
            have HC8 := hidden (HC9.out.later hb)
            have HX8 := hidden (HX7.out.later hb)
            have HY8 := hidden (HY7.out.later hb)
            have HP8 := hidden (HP7.out.later hb)
            have HQ8 := hidden (HQ7.out.later hb)
            have HB8 := hidden (HB7.out.trans (hb.mono HB7.out.size))
            clear hb
            clear HX7 HY7 HP7 HQ7 HB7
            have HD8 := hidden ho
            clear ho
            obtain ⟨q5a, q5n, q5c, rfl⟩ : ∃ a n c, q5 = .slice a n c := by obtain ⟨a, c, e⟩ := HD8.out.shape; exact ⟨_, _, _, e⟩
            go_wp2_with fail
            refine (psame_any _ _ (flN l) (flN l) w8 HD8.out HC8.out HLF.out HLF.out).mono ?_
            rw [decide_eq_true (Eq.refl (flN l))]
            rintro e w9 ⟨rfl, hb⟩
            have HX9 := hidden (HX8.out.later hb)
            have HY9 := hidden (HY8.out.later hb)
            have HP9 := hidden (HP8.out.later hb)
            have HQ9 := hidden (HQ8.out.later hb)
            have HD9 := hidden (HD8.out.later hb)
            have HB9 := hidden (HB8.out.trans (hb.mono HB8.out.size))
            clear hb
            clear HX8 HY8 HP8 HQ8 HD8 HB8
            go_wp2_with fail
            go_ret
            exact ⟨by first | rfl | simp, HB9.out⟩

end Go.Proofs.Ytcdjemheokmglaa
