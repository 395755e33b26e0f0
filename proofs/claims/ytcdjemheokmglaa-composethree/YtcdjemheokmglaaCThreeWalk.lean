
/-
  The law ComposeThree answers true at whatever steps, and leaves what lay in memory as it was.
-/
import Derived.Test.YtcdjemheokmglaaCLaw
namespace Go.Proofs.Ytcdjemheokmglaa
open Go.RowKit Go.Proofs.Ytcdjemheokmglaa.Ln Go.Proofs.Ytcdjemheokmglaa.Ol

set_option maxRecDepth 3000 in
set_option maxHeartbeats 8000000 in
theorem composeThree_any (vX : Value) (p : List Oq) (vY : Value) (q : List Oq) (vZ : Value) (r : List Oq) (w : World) (hX : OpsAt w vX p) (hlX : p.length ≤ 4398046511104) (hfX : Fit p) (hY : OpsAt w vY q) (hlY : q.length ≤ 4398046511104) (hfY : Fit q) (hZ : OpsAt w vZ r) (hlZ : r.length ≤ 4398046511104) (hfZ : Fit r) :
    Calls Try.prog 5 #[vX, vY, vZ] w fun e w' => e = .returned (.bool true) ∧ Below w.heap.size w w' := by
  have HX0 := hidden hX
  have HY0 := hidden hY
  have HZ0 := hidden hZ
  have HB0 := hidden (Below.refl w.heap.size w)
  have HFX := hidden hfX
  obtain ⟨aX, cX, rfl⟩ := hX.shape
  clear hX hfX
  have HFY := hidden hfY
  obtain ⟨aY, cY, rfl⟩ := hY.shape
  clear hY hfY
  have HFZ := hidden hfZ
  obtain ⟨aZ, cZ, rfl⟩ := hZ.shape
  clear hZ hfZ
  go_enter Try.func5, Try.ntmps5
  go_wp2_with fail
  refine (alive11_any _).mono ?_
  rintro e w1 ⟨rfl, hb⟩
  have HX1 := hidden (HX0.out.later hb)
  have HY1 := hidden (HY0.out.later hb)
  have HZ1 := hidden (HZ0.out.later hb)
  have HB1 := hidden (HB0.out.trans (hb.mono HB0.out.size))
  clear hb
  go_wp2_with fail
  refine (few_any _ p w1 HX1.out (by omega)).mono ?_
  rintro e w' ⟨⟨c, rfl⟩, hw⟩
  subst w'
  cases c with
  | false =>
    go_wp2_with fail
    go_ret
    exact ⟨rfl, HB1.out⟩
  | true =>
    go_wp2_with fail
    refine (few_any _ q w1 HY1.out (by omega)).mono ?_
    rintro e w' ⟨⟨c, rfl⟩, hw⟩
    subst w'
    cases c with
    | false =>
      go_wp2_with fail
      go_ret
      exact ⟨rfl, HB1.out⟩
    | true =>
      go_wp2_with fail
      refine (few_any _ r w1 HZ1.out (by omega)).mono ?_
      rintro e w' ⟨⟨c, rfl⟩, hw⟩
      subst w'
      cases c with
      | false =>
        go_wp2_with fail
        go_ret
        exact ⟨rfl, HB1.out⟩
      | true =>
        cases hrtX : right p with
        | false =>
          have HRX := hidden hrtX
          clear hrtX
          go_wp2_with fail
          refine (pright_any _ p w1 HX1.out (by omega) HFX.out).mono ?_
          rw [HRX.out]
          rintro e w2 ⟨rfl, hb⟩
          have HX2 := hidden (HX1.out.later hb)
          have HY2 := hidden (HY1.out.later hb)
          have HZ2 := hidden (HZ1.out.later hb)
          have HB2 := hidden (HB1.out.trans (hb.mono HB1.out.size))
          clear hb
          clear HX1 HY1 HZ1 HB1
          go_wp2_with fail
          go_ret
          exact ⟨by first | rfl | simp, HB2.out⟩
        | true =>
          have HRX := hidden hrtX
          clear hrtX
          go_wp2_with fail
          refine (pright_any _ p w1 HX1.out (by omega) HFX.out).mono ?_
          rw [HRX.out]
          rintro e w2 ⟨rfl, hb⟩
          have HX2 := hidden (HX1.out.later hb)
          have HY2 := hidden (HY1.out.later hb)
          have HZ2 := hidden (HZ1.out.later hb)
          have HB2 := hidden (HB1.out.trans (hb.mono HB1.out.size))
          clear hb
          clear HX1 HY1 HZ1 HB1
          cases hrtY : right q with
          | false =>
            have HRY := hidden hrtY
            clear hrtY
            go_wp2_with fail
            refine (pright_any _ q w2 HY2.out (by omega) HFY.out).mono ?_
            rw [HRY.out]
            rintro e w3 ⟨rfl, hb⟩
            have HX3 := hidden (HX2.out.later hb)
            have HY3 := hidden (HY2.out.later hb)
            have HZ3 := hidden (HZ2.out.later hb)
            have HB3 := hidden (HB2.out.trans (hb.mono HB2.out.size))
            clear hb
            clear HX2 HY2 HZ2 HB2
            go_wp2_with fail
            go_ret
            exact ⟨by first | rfl | simp, HB3.out⟩
          | true =>
            have HRY := hidden hrtY
            clear hrtY
            go_wp2_with fail
            refine (pright_any _ q w2 HY2.out (by omega) HFY.out).mono ?_
            rw [HRY.out]
            rintro e w3 ⟨rfl, hb⟩
            have HX3 := hidden (HX2.out.later hb)
            have HY3 := hidden (HY2.out.later hb)
            have HZ3 := hidden (HZ2.out.later hb)
            have HB3 := hidden (HB2.out.trans (hb.mono HB2.out.size))
            clear hb
            clear HX2 HY2 HZ2 HB2
            cases hrtZ : right r with
            | false =>
              have HRZ := hidden hrtZ
              clear hrtZ
              go_wp2_with fail
              refine (pright_any _ r w3 HZ3.out (by omega) HFZ.out).mono ?_
              rw [HRZ.out]
              rintro e w4 ⟨rfl, hb⟩
              have HX4 := hidden (HX3.out.later hb)
              have HY4 := hidden (HY3.out.later hb)
              have HZ4 := hidden (HZ3.out.later hb)
              have HB4 := hidden (HB3.out.trans (hb.mono HB3.out.size))
              clear hb
              clear HX3 HY3 HZ3 HB3
              go_wp2_with fail
              go_ret
              exact ⟨by first | rfl | simp, HB4.out⟩
            | true =>
              have HRZ := hidden hrtZ
              clear hrtZ
              go_wp2_with fail
              refine (pright_any _ r w3 HZ3.out (by omega) HFZ.out).mono ?_
              rw [HRZ.out]
              rintro e w4 ⟨rfl, hb⟩
              have HX4 := hidden (HX3.out.later hb)
              have HY4 := hidden (HY3.out.later hb)
              have HZ4 := hidden (HZ3.out.later hb)
              have HB4 := hidden (HB3.out.trans (hb.mono HB3.out.size))
              clear hb
              clear HX3 HY3 HZ3 HB3
              obtain ⟨ra, hra⟩ : ∃ r, thn p q = r := ⟨_, rfl⟩
              have HRA := hidden hra
              clear hra
              obtain ⟨rb, hrb⟩ : ∃ s, thn q r = s := ⟨_, rfl⟩
              have HRB := hidden hrb
              clear hrb
              go_wp2_with fail
              refine (then_any _ _ p q w4 HX4.out HY4.out (by omega) (by omega) HFX.out HFY.out).mono ?_
              rw [HRA.out]
              rintro e w5 ⟨q1, rfl, ho, hb⟩
              have HX5 := hidden (HX4.out.later hb)
              have HY5 := hidden (HY4.out.later hb)
              have HZ5 := hidden (HZ4.out.later hb)
              have HB5 := hidden (HB4.out.trans (hb.mono HB4.out.size))
              clear hb
              clear HX4 HY4 HZ4 HB4
              have HA5 := hidden ho
              clear ho
              obtain ⟨q1a, q1n, q1c, rfl⟩ : ∃ a n c, q1 = .slice a n c := by obtain ⟨a, c, e⟩ := HA5.out.shape; exact ⟨_, _, _, e⟩
              obtain ⟨ba, hba⟩ : ∃ b, ra.isSome = b := ⟨_, rfl⟩
              rw [hba]
              have HBA := hidden hba
              clear hba
              go_wp2_with fail
              refine (then_any _ _ q r w5 HY5.out HZ5.out (by omega) (by omega) HFY.out HFZ.out).mono ?_
              rw [HRB.out]
              rintro e w6 ⟨q2, rfl, ho, hb⟩
              have HX6 := hidden (HX5.out.later hb)
              have HY6 := hidden (HY5.out.later hb)
              have HZ6 := hidden (HZ5.out.later hb)
              have HA6 := hidden (HA5.out.later hb)
              have HB6 := hidden (HB5.out.trans (hb.mono HB5.out.size))
              clear hb
              clear HX5 HY5 HZ5 HA5 HB5
              have HC6 := hidden ho
              clear ho
              obtain ⟨q2a, q2n, q2c, rfl⟩ : ∃ a n c, q2 = .slice a n c := by obtain ⟨a, c, e⟩ := HC6.out.shape; exact ⟨_, _, _, e⟩
              obtain ⟨bb, hbb⟩ : ∃ b, rb.isSome = b := ⟨_, rfl⟩
              rw [hbb]
              have HBB := hidden hbb
              clear hbb
              cases ba with
              | false =>
                go_wp2_with fail
                go_ret
                exact ⟨by first | rfl | simp, HB6.out⟩
              | true =>
                cases bb with
                | false =>
                  go_wp2_with fail
                  go_ret
                  exact ⟨by first | rfl | simp, HB6.out⟩
                | true =>
                  obtain ⟨la, hla⟩ := Option.isSome_iff_exists.1 HBA.out
                  obtain ⟨lb, hlb⟩ := Option.isSome_iff_exists.1 HBB.out
                  subst hla hlb
                  rw [show (some la).getD [] = la from rfl] at HA6
                  rw [show (some lb).getD [] = lb from rfl] at HC6
                  have HFA := hidden (thn_fit HFX.out HFY.out HRA.out)
                  have HFC := hidden (thn_fit HFY.out HFZ.out HRB.out)
                  have HLA := hidden (thn_len HRA.out)
                  have HLC := hidden (thn_len HRB.out)
                  obtain ⟨rx, hrx⟩ : ∃ s, thn la r = s := ⟨_, rfl⟩
                  have HRX := hidden hrx
                  clear hrx
                  obtain ⟨ry, hry⟩ : ∃ s, thn p lb = s := ⟨_, rfl⟩
                  have HRY := hidden hry
                  clear hry HBA HBB
                  go_wp2_with fail
                  refine (then_any _ _ la r w6 HA6.out HZ6.out (by have := HLA.out; omega) (by omega) HFA.out HFZ.out).mono ?_
                  rw [HRX.out]
                  rintro e w7 ⟨q3, rfl, ho, hb⟩
                  have HX7 := hidden (HX6.out.later hb)
                  have HY7 := hidden (HY6.out.later hb)
                  have HZ7 := hidden (HZ6.out.later hb)
                  have HA7 := hidden (HA6.out.later hb)
                  have HC7 := hidden (HC6.out.later hb)
                  have HB7 := hidden (HB6.out.trans (hb.mono HB6.out.size))
                  clear hb
                  clear HX6 HY6 HZ6 HA6 HC6 HB6
                  have HP7 := hidden ho
                  clear ho
                  obtain ⟨q3a, q3n, q3c, rfl⟩ : ∃ a n c, q3 = .slice a n c := by obtain ⟨a, c, e⟩ := HP7.out.shape; exact ⟨_, _, _, e⟩
                  obtain ⟨bx, hbx⟩ : ∃ b, rx.isSome = b := ⟨_, rfl⟩
                  rw [hbx]
                  have HBX := hidden hbx
                  clear hbx
                  go_wp2_with fail
                  refine (then_any _ _ p lb w7 HX7.out HC7.out (by omega) (by have := HLC.out; omega) HFX.out HFC.out).mono ?_
                  rw [HRY.out]
                  rintro e w8 ⟨q4, rfl, ho, hb⟩
                  have HX8 := hidden (HX7.out.later hb)
                  have HY8 := hidden (HY7.out.later hb)
                  have HZ8 := hidden (HZ7.out.later hb)
                  have HA8 := hidden (HA7.out.later hb)
                  have HC8 := hidden (HC7.out.later hb)
                  have HP8 := hidden (HP7.out.later hb)
                  have HB8 := hidden (HB7.out.trans (hb.mono HB7.out.size))
                  clear hb
                  clear HX7 HY7 HZ7 HA7 HC7 HP7 HB7
                  have HQ8 := hidden ho
                  clear ho
                  obtain ⟨q4a, q4n, q4c, rfl⟩ : ∃ a n c, q4 = .slice a n c := by obtain ⟨a, c, e⟩ := HQ8.out.shape; exact ⟨_, _, _, e⟩
                  obtain ⟨by_, hby⟩ : ∃ b, ry.isSome = b := ⟨_, rfl⟩
                  rw [hby]
                  have HBY := hidden hby
                  clear hby
                  cases bx with
                  | false =>
                    go_wp2_with fail
                    go_ret
                    exact ⟨by first | rfl | simp, HB8.out⟩
                  | true =>
                    cases by_ with
                    | false =>
                      go_wp2_with fail
                      go_ret
                      exact ⟨by first | rfl | simp, HB8.out⟩
                    | true =>
                      obtain ⟨lx, hlx⟩ := Option.isSome_iff_exists.1 HBX.out
                      obtain ⟨ly, hly⟩ := Option.isSome_iff_exists.1 HBY.out
                      subst hlx hly
                      obtain rfl := thn_three HRA.out HRB.out HRX.out HRY.out
                      rw [show (some lx).getD [] = lx from rfl] at HP8 HQ8
                      have HLX := hidden (show lx.length ≤ 4398046511104 by have := thn_len HRX.out; omega)
                      clear HBX HBY
                      go_wp2_with fail
                      refine (psame_any _ _ lx lx w8 HP8.out HQ8.out HLX.out HLX.out).mono ?_
                      rw [decide_eq_true (Eq.refl lx)]
                      rintro e w9 ⟨rfl, hb⟩
                      have HX9 := hidden (HX8.out.later hb)
                      have HY9 := hidden (HY8.out.later hb)
                      have HZ9 := hidden (HZ8.out.later hb)
                      have HA9 := hidden (HA8.out.later hb)
                      have HC9 := hidden (HC8.out.later hb)
                      have HP9 := hidden (HP8.out.later hb)
                      have HQ9 := hidden (HQ8.out.later hb)
                      have HB9 := hidden (HB8.out.trans (hb.mono HB8.out.size))
                      clear hb
                      clear HX8 HY8 HZ8 HA8 HC8 HP8 HQ8 HB8
                      go_wp2_with fail
                      go_ret
                      exact ⟨by first | rfl | simp, HB9.out⟩

end Go.Proofs.Ytcdjemheokmglaa
