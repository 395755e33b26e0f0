/-
  What the program's Match answers: whether the parts of the pattern take the name; conditions: the lengths of both.
-/
import Derived.Test.YthjhihpbilaifaaGRead
import Derived.Test.YthjhihpbilaifaaGStars
import Derived.Deep.RegionHeld3
namespace Go.Proofs.Ythjhihpbilaifaa
open Go.RowKit Go.Proofs.Ythjhihpbilaifaa.Gl

theorem parse_length : ∀ n op l, (parse n op l).length ≤ n := by
  intro n
  induction n with
  | zero => intro op l; exact Nat.le_refl _
  | succ n ih =>
    intro op l
    unfold parse
    split
    · simp
    split
    · have := ih op (l.drop 1); simp only [List.length_cons]; omega
    split
    · have := ih op (l.drop 1); simp only [List.length_cons]; omega
    split
    · split
      · rename_i r _; have := ih op (l.drop (r.2 + 1)); simp only [List.length_cons]; omega
      · have := ih true (l.drop (byteLen true l)); simp only [List.length_cons]; omega
    · have := ih op (l.drop (byteLen true l)); simp only [List.length_cons]; omega
theorem cells_on {wr X w2 : World} {b o : Nat} {f : Bs} (hb : b < wr.heap.size) (h : wr.cell? ⟨b, o, none⟩ = some (.int .u64 (word f 0)) ∧ wr.cell? ⟨b, o + 1, none⟩ = some (.int .u64 (word f 1)) ∧ wr.cell? ⟨b, o + 2, none⟩ = some (.int .u64 (word f 2)) ∧ wr.cell? ⟨b, o + 3, none⟩ = some (.int .u64 (word f 3)))
    (h2 : Below X.heap.size X w2) (hX : X.heap = wr.heap := by rfl) : w2.cell? ⟨b, o, none⟩ = some (.int .u64 (word f 0)) ∧ w2.cell? ⟨b, o + 1, none⟩ = some (.int .u64 (word f 1)) ∧ w2.cell? ⟨b, o + 2, none⟩ = some (.int .u64 (word f 2)) ∧ w2.cell? ⟨b, o + 3, none⟩ = some (.int .u64 (word f 3)) := by
  have e : ∀ k, w2.cell? ⟨b, k, none⟩ = wr.cell? ⟨b, k, none⟩ := by
    intro k
    have := h2.block b (by rw [hX]; exact hb)
    simp only [World.cell?, this, hX]
  rw [e, e, e, e]
  exact h
theorem hit_less {n i t t2 : Nat} (hlt : i < n) (htt : t ≤ t2) (ht : t2 ≤ i) : (n + 1 - t2) * (n + 2) - (i + 1) < (n + 1 - t) * (n + 2) - i := by
  have h1 : (n + 1 - t2) * (n + 2) ≤ (n + 1 - t) * (n + 2) := Nat.mul_le_mul_right _ (by omega)
  have h2 : 1 * (n + 2) ≤ (n + 1 - t2) * (n + 2) := Nat.mul_le_mul_right _ (by omega)
  omega
theorem back_less {n i t t2 : Nat} (ht : t2 ≤ i) (hlt : i < n) (htt : t ≤ t2) : (n - t2) * (n + 2) - (t2 + 1) < (n + 1 - t) * (n + 2) - i := by
  have h1 : (n + 1 - t2) * (n + 2) ≤ (n + 1 - t) * (n + 2) := Nat.mul_le_mul_right _ (by omega)
  have h2 : (n + 1 - t2) * (n + 2) = (n - t2) * (n + 2) + (n + 2) := by
    rw [show n + 1 - t2 = (n - t2) + 1 by omega, Nat.add_mul]; omega
  omega

set_option maxHeartbeats 4000000 in
theorem match_some (p s : Tx) (w : World) (hp : p.length ≤ 1000000) (hs : s.length ≤ 1000000) (hne : parts p ≠ []) :
    Calls Try.prog 10 #[S p, S s] w fun e w' => e = .returned (.bool (hits p s)) ∧ Below w.heap.size w w' := by
  unfold S
  go_enter Try.func10, Try.ntmps10
  go_wp2_with fail
  go_step3
  go_wp2_with fail
  refine (read_any p w hp).mono ?_
  rintro e w1 ⟨⟨v, rfl, hv⟩, hb1⟩
  have HB1 := hidden hb1
  have hpl : (parts p).length ≤ 1000000 := Nat.le_trans (parse_length _ _ _) hp
  rcases hv with ⟨h0, _⟩ | ⟨b, cap, rfl, hcap, hb, hcells⟩
  · exact absurd h0 hne
  have HH := hidden (show hits p s = pm (parts p) s from rfl)
  obtain ⟨P, hP⟩ : ∃ P, P = parts p := ⟨_, rfl⟩
  rw [← hP] at hcap hcells hne hpl HH ⊢
  have HF := hidden (show ∀ q ∈ P, fair q from by rw [hP]; exact parse_fair _ _ _)
  have HC := hidden hcells
  clear hcells hP hb1
  go_wp2_with fail
  go_step3
  go_wp2_with fail
  go_loopw [6, 7, 8, 9] (fun aj ai az at_ wr => ∃ (j i t : Nat) (z : Int), aj = .int .i64 j ∧ ai = .int .i64 i ∧ az = .int .i64 z ∧ at_ = .int .i64 t ∧ Hid (Inv P s j i z t ∧ Below w1.heap.size w1 wr))
    (fun _ ai _ at_ _ => (s.length + 1 - (intOf at_).toNat) * (s.length + 2) - (intOf ai).toNat)
  case atStart => exact ⟨0, 0, 0, -1, rfl, rfl, rfl, rfl, Inv.start P s, Below.refl _ _⟩
  case round =>
    obtain ⟨j, i, t, z, rfl, rfl, rfl, rfl, hinv, hbr⟩ := hrel
    have HI := hidden hinv
    have HB := hidden hbr
    obtain ⟨hj, hi, hti, hz⟩ := hinv.bounds
    clear hinv hbr
    by_cases hlt : i < s.length
    · obtain ⟨c, hc⟩ : ∃ c, s[i]? = some c := ⟨s[i], List.getElem?_eq_getElem hlt⟩
      have hbs : ∀ h, (⟨s.toArray⟩ : ByteArray)[i]'h = c := fun h => by rw [byte_at, List.getD_eq_getElem?_getD, hc]; rfl
      have HCI := hidden hc
      clear hc hz
      go_wp2_with fail
      go_loop [6, 8, 9] (fun aj az at_ => ∃ (j2 t2 : Nat) (z2 : Int), aj = .int .i64 j2 ∧ az = .int .i64 z2 ∧ at_ = .int .i64 t2 ∧ Hid (Inv P s j2 i z2 t2 ∧ t ≤ t2))
        (fun aj _ _ => P.length - (intOf aj).toNat)
      case atStart => exact ⟨j, t, z, rfl, rfl, rfl, HI.out, Nat.le_refl _⟩
      case round =>
        obtain ⟨j2, t2, z2, rfl, rfl, rfl, hinv2, htt⟩ := hrel
        have HI2 := hidden hinv2
        obtain ⟨hj2, _, hti2, hz2⟩ := hinv2.bounds
        clear hinv2
        by_cases hjl : j2 < P.length
        · obtain ⟨sf, hq⟩ : ∃ q, P[j2]? = some q := ⟨P[j2], List.getElem?_eq_getElem hjl⟩
          obtain ⟨st, f⟩ := sf
          obtain ⟨d0, d1, d2, d3, d4⟩ := HC.out j2 _ hq
          have c0 : wr.cell? ⟨b, j2 * 5, none⟩ = some (.bool st) := (HB.out.cell (p := ⟨b, j2 * 5, none⟩) hb).trans d0
          have c1 : wr.cell? ⟨b, j2 * 5 + 1, none⟩ = some (.int .u64 (word f 0)) := (HB.out.cell (p := ⟨b, j2 * 5 + 1, none⟩) hb).trans d1
          have c2 : wr.cell? ⟨b, j2 * 5 + 2, none⟩ = some (.int .u64 (word f 1)) := (HB.out.cell (p := ⟨b, j2 * 5 + 2, none⟩) hb).trans d2
          have c3 : wr.cell? ⟨b, j2 * 5 + 3, none⟩ = some (.int .u64 (word f 2)) := (HB.out.cell (p := ⟨b, j2 * 5 + 3, none⟩) hb).trans d3
          have c4 : wr.cell? ⟨b, j2 * 5 + 4, none⟩ = some (.int .u64 (word f 3)) := (HB.out.cell (p := ⟨b, j2 * 5 + 4, none⟩) hb).trans d4
          have HQ := hidden hq
          clear d0 d1 d2 d3 d4 hq
          cases st with
          | true =>
            go_wp2_with fail
            go_round
            case rel => exact ⟨j2 + 1, i, ((j2 + 1 : Nat) : Int), by go_num, by go_num, rfl, HI2.out.star HF.out HQ.out, by omega⟩
            case measure => simp [intOf]; omega
          | false =>
            go_wp2_with fail
            have c2' : wr.cell? ⟨b, j2 * 5 + 1 + 1, none⟩ = some (.int .u64 (word f 1)) := c2
            have c3' : wr.cell? ⟨b, j2 * 5 + 1 + 2, none⟩ = some (.int .u64 (word f 2)) := c3
            have c4' : wr.cell? ⟨b, j2 * 5 + 1 + 3, none⟩ = some (.int .u64 (word f 3)) := c4
            have hS : wr.cell? ⟨b, j2 * 5 + 1, none⟩ = some (.int .u64 (word f 0)) ∧ wr.cell? ⟨b, j2 * 5 + 1 + 1, none⟩ = some (.int .u64 (word f 1)) ∧ wr.cell? ⟨b, j2 * 5 + 1 + 2, none⟩ = some (.int .u64 (word f 2)) ∧ wr.cell? ⟨b, j2 * 5 + 1 + 3, none⟩ = some (.int .u64 (word f 3)) := ⟨c1, c2', c3', c4'⟩
            have hbr : b < wr.heap.size := Nat.lt_of_lt_of_le hb HB.out.size
            go_region_held3 (fun X => X.cell? ⟨b, j2 * 5 + 1, none⟩ = some (.int .u64 (word f 0)) ∧ X.cell? ⟨b, j2 * 5 + 1 + 1, none⟩ = some (.int .u64 (word f 1)) ∧ X.cell? ⟨b, j2 * 5 + 1 + 2, none⟩ = some (.int .u64 (word f 2)) ∧ X.cell? ⟨b, j2 * 5 + 1 + 3, none⟩ = some (.int .u64 (word f 3)))
              (first | exact hS | assumption)
              (first | (go_at_call 13; refine (has_any f c _).mono ?_; rintro e w2 ⟨rfl, hb2⟩; have hS2 := cells_on hbr hS hb2))
            all_goals
              have HB2 := hidden (show Below w1.heap.size w1 w2 from HB.out.drew.trans (Below.mono hb2 HB.out.size))
              clear hb2 hS2 hS c1 c2 c3 c4 c0 c2' c3' c4'
              cases hf : f c.toNat with
              | true =>
                have HF2 := hidden hf
                clear hf
                go_wp2_with fail
                go_roundw
                case rel => exact ⟨j2 + 1, i + 1, t2, z2, by go_num, by go_num, rfl, rfl, HI2.out.hit HQ.out HCI.out HF2.out, HB2.out⟩
                case measure => simp [intOf]; exact hit_less hlt htt hti2
              | false =>
                have HM := hidden (show j2 = P.length ∨ ∃ f, P[j2]? = some (false, f) ∧ f c.toNat = false from Or.inr ⟨f, HQ.out, hf⟩)
                clear hf
                rcases hz2 with rfl | ⟨b', rfl, hb'⟩
                · have HFALSE := hidden (HI2.out.fail HCI.out HM.out)
                  have hni : ¬ i = s.length := by omega
                  have hni2 : ¬ (i : Int) = s.length := by omega
                  go_wp2_with fail
                  go_loop [6] (fun aj => ∃ j3 : Nat, aj = .int .i64 j3 ∧ j3 ≤ P.length ∧ Hid (True))
                    (fun aj => P.length - (intOf aj).toNat)
                  case atStart => exact ⟨_, rfl, by omega, trivial⟩
                  case round =>
                    obtain ⟨j3, rfl, hj3, H3⟩ := hrel
                    by_cases hjl3 : j3 < P.length
                    · obtain ⟨sf3, hq3⟩ : ∃ q, P[j3]? = some q := ⟨P[j3], List.getElem?_eq_getElem hjl3⟩
                      obtain ⟨st3, f3⟩ := sf3
                      have c3 : w2.cell? ⟨b, j3 * 5, none⟩ = some (.bool st3) := (HB2.out.cell (p := ⟨b, j3 * 5, none⟩) hb).trans (HC.out j3 _ hq3).1
                      have HQ3 := hidden hq3
                      clear hq3
                      cases st3 with
                      | true =>
                        go_wp2_with fail
                        go_round
                        case rel => exact ⟨j3 + 1, by go_num, by omega, trivial⟩
                        case measure => simp [intOf]; omega
                      | false =>
                        have hn1 : ¬ j3 = P.length := by omega
                        have hn2 : ((j3 : Int) == P.length) = false := by rw [beq_eq_false_iff_ne]; omega
                        go_wp2_with fail
                        try rw [Exit.noGoto_ret]
                        go_ret
                        exact ⟨by rw [HH.out, HFALSE.out]; rfl, HB1.out.trans (HB2.out.mono HB1.out.size)⟩
                    · obtain rfl : j3 = P.length := by omega
                      go_wp2_with fail
                      try rw [Exit.noGoto_ret]
                      go_ret
                      exact ⟨by rw [HH.out, HFALSE.out]; rfl, HB1.out.trans (HB2.out.mono HB1.out.size)⟩

                · have htl : t2 < s.length := by omega
                  obtain ⟨d, hd⟩ : ∃ d, s[t2]? = some d := ⟨s[t2], List.getElem?_eq_getElem htl⟩
                  have hbd : ∀ h, (⟨s.toArray⟩ : ByteArray)[t2]'h = d := fun h => by rw [byte_at, List.getD_eq_getElem?_getD, hd]; rfl
                  have HBK := hidden (HI2.out.back HCI.out HM.out hd)
                  have hnb : ¬ (b' : Int) < 0 := by omega
                  clear hd
                  by_cases hd47 : d = 47
                  · subst hd47
                    have HFALSE := hidden (HBK.out.1 rfl)
                    have hni : ¬ i = s.length := by omega
                    have hni2 : ¬ (i : Int) = s.length := by omega
                    go_wp2_with fail
                    go_loop [6] (fun aj => ∃ j3 : Nat, aj = .int .i64 j3 ∧ j3 ≤ P.length ∧ Hid (True))
                      (fun aj => P.length - (intOf aj).toNat)
                    case atStart => exact ⟨_, rfl, by omega, trivial⟩
                    case round =>
                      obtain ⟨j3, rfl, hj3, H3⟩ := hrel
                      by_cases hjl3 : j3 < P.length
                      · obtain ⟨sf3, hq3⟩ : ∃ q, P[j3]? = some q := ⟨P[j3], List.getElem?_eq_getElem hjl3⟩
                        obtain ⟨st3, f3⟩ := sf3
                        have c3 : w2.cell? ⟨b, j3 * 5, none⟩ = some (.bool st3) := (HB2.out.cell (p := ⟨b, j3 * 5, none⟩) hb).trans (HC.out j3 _ hq3).1
                        have HQ3 := hidden hq3
                        clear hq3
                        cases st3 with
                        | true =>
                          go_wp2_with fail
                          go_round
                          case rel => exact ⟨j3 + 1, by go_num, by omega, trivial⟩
                          case measure => simp [intOf]; omega
                        | false =>
                          have hn1 : ¬ j3 = P.length := by omega
                          have hn2 : ((j3 : Int) == P.length) = false := by rw [beq_eq_false_iff_ne]; omega
                          go_wp2_with fail
                          try rw [Exit.noGoto_ret]
                          go_ret
                          exact ⟨by rw [HH.out, HFALSE.out]; rfl, HB1.out.trans (HB2.out.mono HB1.out.size)⟩
                      · obtain rfl : j3 = P.length := by omega
                        go_wp2_with fail
                        try rw [Exit.noGoto_ret]
                        go_ret
                        exact ⟨by rw [HH.out, HFALSE.out]; rfl, HB1.out.trans (HB2.out.mono HB1.out.size)⟩

                  · have HI3 := hidden (HBK.out.2 hd47)
                    have hd48 := byte_ne (n := 47) hd47
                    have hd49 : ((d.toNat : Int) == 47) = false := by rw [beq_eq_false_iff_ne]; exact hd48
                    clear hd47
                    go_wp2_with fail
                    go_roundw
                    case rel => exact ⟨b', t2 + 1, t2 + 1, (b' : Int), rfl, by go_num, rfl, by go_num, HI3.out, HB2.out⟩
                    case measure => simp [intOf]; exact back_less hti2 hlt htt

        · have HM := hidden (show j2 = P.length ∨ ∃ f, P[j2]? = some (false, f) ∧ f c.toNat = false from Or.inl (by omega))
          have hnj : ¬ (j2 : Int) < P.length := by omega
          go_wp2_with fail
          go_quiet (fail)
          have HBQ := hidden (below_drewN HB.out nq)
          rcases hz2 with rfl | ⟨b', rfl, hb'⟩
          · have HFALSE := hidden (HI2.out.fail HCI.out HM.out)
            have hni : ¬ i = s.length := by omega
            have hni2 : ¬ (i : Int) = s.length := by omega
            go_wp2_with fail
            go_loop [6] (fun aj => ∃ j3 : Nat, aj = .int .i64 j3 ∧ j3 ≤ P.length ∧ Hid (True))
              (fun aj => P.length - (intOf aj).toNat)
            case atStart => exact ⟨_, rfl, by omega, trivial⟩
            case round =>
              obtain ⟨j3, rfl, hj3, H3⟩ := hrel
              by_cases hjl3 : j3 < P.length
              · obtain ⟨sf3, hq3⟩ : ∃ q, P[j3]? = some q := ⟨P[j3], List.getElem?_eq_getElem hjl3⟩
                obtain ⟨st3, f3⟩ := sf3
                have c3 : (wr.drewN nq).cell? ⟨b, j3 * 5, none⟩ = some (.bool st3) := (HBQ.out.cell (p := ⟨b, j3 * 5, none⟩) hb).trans (HC.out j3 _ hq3).1
                have HQ3 := hidden hq3
                clear hq3
                cases st3 with
                | true =>
                  go_wp2_with fail
                  go_round
                  case rel => exact ⟨j3 + 1, by go_num, by omega, trivial⟩
                  case measure => simp [intOf]; omega
                | false =>
                  have hn1 : ¬ j3 = P.length := by omega
                  have hn2 : ((j3 : Int) == P.length) = false := by rw [beq_eq_false_iff_ne]; omega
                  go_wp2_with fail
                  try rw [Exit.noGoto_ret]
                  go_ret
                  exact ⟨by rw [HH.out, HFALSE.out]; rfl, HB1.out.trans (HBQ.out.mono HB1.out.size)⟩
              · obtain rfl : j3 = P.length := by omega
                go_wp2_with fail
                try rw [Exit.noGoto_ret]
                go_ret
                exact ⟨by rw [HH.out, HFALSE.out]; rfl, HB1.out.trans (HBQ.out.mono HB1.out.size)⟩

          · have htl : t2 < s.length := by omega
            obtain ⟨d, hd⟩ : ∃ d, s[t2]? = some d := ⟨s[t2], List.getElem?_eq_getElem htl⟩
            have hbd : ∀ h, (⟨s.toArray⟩ : ByteArray)[t2]'h = d := fun h => by rw [byte_at, List.getD_eq_getElem?_getD, hd]; rfl
            have HBK := hidden (HI2.out.back HCI.out HM.out hd)
            have hnb : ¬ (b' : Int) < 0 := by omega
            clear hd
            by_cases hd47 : d = 47
            · subst hd47
              have HFALSE := hidden (HBK.out.1 rfl)
              have hni : ¬ i = s.length := by omega
              have hni2 : ¬ (i : Int) = s.length := by omega
              go_wp2_with fail
              go_loop [6] (fun aj => ∃ j3 : Nat, aj = .int .i64 j3 ∧ j3 ≤ P.length ∧ Hid (True))
                (fun aj => P.length - (intOf aj).toNat)
              case atStart => exact ⟨_, rfl, by omega, trivial⟩
              case round =>
                obtain ⟨j3, rfl, hj3, H3⟩ := hrel
                by_cases hjl3 : j3 < P.length
                · obtain ⟨sf3, hq3⟩ : ∃ q, P[j3]? = some q := ⟨P[j3], List.getElem?_eq_getElem hjl3⟩
                  obtain ⟨st3, f3⟩ := sf3
                  have c3 : (wr.drewN nq).cell? ⟨b, j3 * 5, none⟩ = some (.bool st3) := (HBQ.out.cell (p := ⟨b, j3 * 5, none⟩) hb).trans (HC.out j3 _ hq3).1
                  have HQ3 := hidden hq3
                  clear hq3
                  cases st3 with
                  | true =>
                    go_wp2_with fail
                    go_round
                    case rel => exact ⟨j3 + 1, by go_num, by omega, trivial⟩
                    case measure => simp [intOf]; omega
                  | false =>
                    have hn1 : ¬ j3 = P.length := by omega
                    have hn2 : ((j3 : Int) == P.length) = false := by rw [beq_eq_false_iff_ne]; omega
                    go_wp2_with fail
                    try rw [Exit.noGoto_ret]
                    go_ret
                    exact ⟨by rw [HH.out, HFALSE.out]; rfl, HB1.out.trans (HBQ.out.mono HB1.out.size)⟩
                · obtain rfl : j3 = P.length := by omega
                  go_wp2_with fail
                  try rw [Exit.noGoto_ret]
                  go_ret
                  exact ⟨by rw [HH.out, HFALSE.out]; rfl, HB1.out.trans (HBQ.out.mono HB1.out.size)⟩

            · have HI3 := hidden (HBK.out.2 hd47)
              have hd48 := byte_ne (n := 47) hd47
              have hd49 : ((d.toNat : Int) == 47) = false := by rw [beq_eq_false_iff_ne]; exact hd48
              clear hd47
              go_wp2_with fail
              go_roundw
              case rel => exact ⟨b', t2 + 1, t2 + 1, (b' : Int), rfl, by go_num, rfl, by go_num, HI3.out, HBQ.out⟩
              case measure => simp [intOf]; exact back_less hti2 hlt htt

    · have HEND := hidden (HI.out.done (by omega))
      have hie : i = s.length := by omega
      go_wp2_with fail
      go_loop [6] (fun aj => ∃ j3 : Nat, aj = .int .i64 j3 ∧ j3 ≤ P.length ∧ Hid (pm P s = pm (P.drop j3) []))
        (fun aj => P.length - (intOf aj).toNat)
      case atStart => exact ⟨_, rfl, by omega, HEND.out⟩
      case round =>
        obtain ⟨j3, rfl, hj3, H3⟩ := hrel
        by_cases hjl3 : j3 < P.length
        · obtain ⟨sf3, hq3⟩ : ∃ q, P[j3]? = some q := ⟨P[j3], List.getElem?_eq_getElem hjl3⟩
          obtain ⟨st3, f3⟩ := sf3
          have c3 : wr.cell? ⟨b, j3 * 5, none⟩ = some (.bool st3) := (HB.out.cell (p := ⟨b, j3 * 5, none⟩) hb).trans (HC.out j3 _ hq3).1
          have HQ3 := hidden hq3
          clear hq3
          cases st3 with
          | true =>
            go_wp2_with fail
            go_round
            case rel => exact ⟨j3 + 1, by go_num, by omega, H3.out.trans (pm_end_star HQ3.out)⟩
            case measure => simp [intOf]; omega
          | false =>
            have hn1 : ¬ j3 = P.length := by omega
            have hn2 : ((j3 : Int) == P.length) = false := by rw [beq_eq_false_iff_ne]; omega
            go_wp2_with fail
            try rw [Exit.noGoto_ret]
            go_ret
            exact ⟨by rw [HH.out, H3.out, pm_end_bare HQ3.out]; rfl, HB1.out.trans (HB.out.mono HB1.out.size)⟩
        · obtain rfl : j3 = P.length := by omega
          go_wp2_with fail
          try rw [Exit.noGoto_ret]
          go_ret
          exact ⟨by rw [HH.out, H3.out, pm_end_nil]; rfl, HB1.out.trans (HB.out.mono HB1.out.size)⟩


set_option maxHeartbeats 4000000 in
theorem match_none (p s : Tx) (w : World) (hp : p.length ≤ 1000000) (hs : s.length ≤ 1000000) (hne : parts p = []) :
    Calls Try.prog 10 #[S p, S s] w fun e w' => e = .returned (.bool (hits p s)) ∧ Below w.heap.size w w' := by
  have HH := hidden (show hits p s = s.isEmpty by unfold hits; rw [hne]; rfl)
  unfold S
  go_enter Try.func10, Try.ntmps10
  go_wp2_with fail
  go_step3
  go_wp2_with fail
  refine (read_any p w hp).mono ?_
  rintro e w1 ⟨⟨v, rfl, hv⟩, hb1⟩
  have HB1 := hidden hb1
  obtain ⟨ao, cap, rfl⟩ : ∃ ao cap, v = .slice ao 0 cap := by
    rw [hne] at hv
    rcases hv with ⟨_, rfl⟩ | ⟨b, cap, rfl, _⟩
    · exact ⟨none, 0, rfl⟩
    · exact ⟨_, cap, rfl⟩
  clear hb1 hv hne
  by_cases h0 : s = []
  · subst h0
    go_wp2_with fail
    go_step3
    go_wp2_with fail
    refine wp_loop_rounds 1 ?_
    rw [rounds_succ]
    go_wp2_with fail
    refine wp_loop_rounds 1 ?_
    rw [rounds_succ]
    go_wp2_with fail
    try rw [Exit.noGoto_ret]
    go_ret
    exact ⟨by rw [HH.out]; rfl, HB1.out⟩
  · have hsl : 0 < s.length := List.length_pos_iff.2 h0
    have HE := hidden (show s.isEmpty = false by simpa using h0)
    have hn0 : ¬ 0 = s.length := by omega
    have hn1 : ((0 : Int) == (s.length : Int)) = false := by rw [beq_eq_false_iff_ne]; omega
    clear h0
    go_wp2_with fail
    go_step3
    go_wp2_with fail
    refine wp_loop_rounds 1 ?_
    rw [rounds_succ]
    go_wp2_with fail
    refine wp_loop_rounds 1 ?_
    rw [rounds_succ]
    go_wp2_with fail
    go_quiet (fail)
    have HBQ := hidden (below_drewN HB1.out nq)
    go_wp2_with fail
    refine wp_loop_rounds 1 ?_
    rw [rounds_succ]
    go_wp2_with fail
    try rw [Exit.noGoto_ret]
    go_ret
    exact ⟨by rw [HH.out, HE.out]; rfl, HBQ.out⟩

theorem match_any (p s : Tx) (w : World) (hp : p.length ≤ 1000000) (hs : s.length ≤ 1000000) :
    Calls Try.prog 10 #[S p, S s] w fun e w' => e = .returned (.bool (hits p s)) ∧ Below w.heap.size w w' := by
  by_cases h : parts p = []
  · exact match_none p s w hp hs h
  · exact match_some p s w hp hs h

end Go.Proofs.Ythjhihpbilaifaa
