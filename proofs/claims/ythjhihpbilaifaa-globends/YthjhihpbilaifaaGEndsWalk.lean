/-
  The law GlobEnds, called with any two texts, returns true, and nothing of what was in memory has turned; conditions: the lengths of both.
-/
import Derived.Test.YthjhihpbilaifaaGCat
import Derived.Deep.RegionHeld3
namespace Go.Proofs.Ythjhihpbilaifaa
open Go.RowKit Go.Proofs.Ythjhihpbilaifaa.Gl

set_option maxHeartbeats 4000000 in
theorem globEnds_any (x s : Tx) (w : World) (hx : x.length ≤ 281474976710656) (hs : s.length ≤ 281474976710656) :
    Calls Try.prog 8 #[S x, S s] w fun e w' => e = .returned (.bool true) ∧ Below w.heap.size w w' := by
  unfold S
  go_enter Try.func8, Try.ntmps8
  go_wp2_with fail
  refine (alive_any _).mono ?_
  rintro e w1 ⟨rfl, hb1⟩
  have HB1 := hidden hb1
  clear hb1
  by_cases h1 : x.length ≤ 20
  · have h1' : ¬ (20 : Int) < x.length := by omega
    have h1d : decide ((20 : Int) < x.length) = false := decide_eq_false h1'
    by_cases h2 : s.length ≤ 40
    · have h2' : ¬ (40 : Int) < s.length := by omega
      have h2d : decide ((40 : Int) < s.length) = false := decide_eq_false h2'
      have HE := hidden (hits_ends x s)
      have HG := hidden (hits_begins x s)
      have hl : (escd x).length ≤ 100 := by rw [escd_len]; omega
      go_wp2_with fail
      go_loop [6, 7] (fun q i => ∃ k : Nat, i = .int .i64 k ∧ k ≤ x.length ∧ q = .string ⟨(escd (x.take k)).toArray⟩)
        (fun _ i => x.length - (intOf i).toNat)
      case atStart => exact ⟨0, rfl, Nat.zero_le _, rfl⟩
      case round =>
        obtain ⟨k, rfl, hk, rfl⟩ := hrel
        by_cases hlt : k < x.length
        · have hel : (escd (x.take k)).length ≤ 100 := by rw [escd_len, List.length_take]; omega
          go_wp2_with fail
          refine ⟨⟨k + 1, by go_num, by omega, ?_⟩, ?_⟩
          · rw [one_of x k hlt, cat_text (escd (x.take k)) [92], cat_text, escd_more x k hlt]
          · simp [intOf]; omega
        · obtain rfl : k = x.length := by omega
          rw [List.take_length]
          obtain ⟨a0, ha0⟩ : ∃ a0, (((⟨s.toArray⟩ : ByteArray).extract (s.length - x.length) s.length).toList == x) = a0 := ⟨_, rfl⟩
          obtain ⟨b0, hb0⟩ : ∃ b0, (((⟨s.toArray⟩ : ByteArray).extract 0 x.length).toList == x) = b0 := ⟨_, rfl⟩
          by_cases hle : x.length ≤ s.length
          · have HA0 := hidden (show a0 = decide (s.drop (s.length - x.length) = x) by
              rw [← ha0, ext_list, List.take_of_length_le (by rw [List.length_drop]; omega), Bool.eq_iff_iff]; simp)
            have HB0 := hidden (show b0 = decide (s.take x.length = x) by
              rw [← hb0, ext_list, List.drop_zero, Nat.sub_zero, Bool.eq_iff_iff]; simp)
            obtain ⟨n, hn⟩ : ∃ n : Nat, n = s.length - x.length := ⟨_, rfl⟩
            have hni : (s.length : Int) - x.length = n := by omega
            rw [← hn] at ha0 HE HA0
            have HLE := hidden hle
            clear hk hlt hn hle
            go_wp2_with fail
            go_loop [9, 10, 11] (fun qa qb i => ∃ (k : Nat) (a b : Bool), i = .int .i64 k ∧ k ≤ n ∧ qa = .bool a ∧ qb = .bool b ∧ Hid (a = (a0 && (slashes (s.take k) == 0)) ∧ b = (b0 && (slashes ((s.drop x.length).take k) == 0))))
              (fun _ _ i => n - (intOf i).toNat)
            case atStart => exact ⟨0, a0, b0, rfl, Nat.zero_le _, rfl, rfl, by simp [slashes], by simp [slashes]⟩
            case round =>
              obtain ⟨k, a, b, rfl, hk, rfl, rfl, H⟩ := hrel
              by_cases hkn : k < n
              · obtain ⟨c, hc⟩ : ∃ c, s[k]? = some c := ⟨s[k], List.getElem?_eq_getElem (by omega)⟩
                obtain ⟨d, hd⟩ : ∃ d, s[x.length + k]? = some d := ⟨s[x.length + k], List.getElem?_eq_getElem (by omega)⟩
                have hbc : ∀ h, (⟨s.toArray⟩ : ByteArray)[k]'h = c := fun h => by rw [byte_at, List.getD_eq_getElem?_getD, hc]; rfl
                have hbd : ∀ h, (⟨s.toArray⟩ : ByteArray)[x.length + k]'h = d := fun h => by rw [byte_at, List.getD_eq_getElem?_getD, hd]; rfl
                have HN := hidden (show (a && c != 47) = (a0 && (slashes (s.take (k + 1)) == 0)) ∧ (b && d != 47) = (b0 && (slashes ((s.drop x.length).take (k + 1)) == 0)) by
                  rw [slashes_snoc s k c hc, slashes_snoc (s.drop x.length) k d (by rw [List.getElem?_drop]; exact hd), H.out.1, H.out.2]
                  constructor
                  · by_cases e : c = 47 <;> simp [e]
                  · by_cases e : d = 47 <;> simp [e])
                clear hc hd H
                by_cases ec : c = 47
                · subst ec
                  by_cases ed : d = 47
                  · subst ed
                    cases a
                    all_goals
                      cases b
                      all_goals
                        go_wp2_with fail
                        go_round
                        case rel => exact ⟨k + 1, false, false, by go_num, by omega, rfl, rfl, HN.out⟩
                        case measure => simp [intOf]; omega
                  · have ed2 := byte_ne (n := 47) ed
                    have ed3 : ((d.toNat : Int) != 47) = true := by rw [bne_iff_ne]; exact ed2
                    have ed4 : (d != 47) = true := by rw [bne_iff_ne]; exact ed
                    rw [ed4] at HN
                    clear ed ed4
                    cases a
                    all_goals
                      cases b
                      all_goals
                        go_wp2_with fail
                        go_round
                        case rel => exact ⟨k + 1, _, _, by go_num, by omega, rfl, rfl, HN.out⟩
                        case measure => simp [intOf]; omega
                · have ec2 := byte_ne (n := 47) ec
                  have ec3 : ((c.toNat : Int) != 47) = true := by rw [bne_iff_ne]; exact ec2
                  have ec4 : (c != 47) = true := by rw [bne_iff_ne]; exact ec
                  rw [ec4] at HN
                  clear ec ec4
                  by_cases ed : d = 47
                  · subst ed
                    cases a
                    all_goals
                      cases b
                      all_goals
                        go_wp2_with fail
                        go_round
                        case rel => exact ⟨k + 1, _, _, by go_num, by omega, rfl, rfl, HN.out⟩
                        case measure => simp [intOf]; omega
                  · have ed2 := byte_ne (n := 47) ed
                    have ed3 : ((d.toNat : Int) != 47) = true := by rw [bne_iff_ne]; exact ed2
                    have ed4 : (d != 47) = true := by rw [bne_iff_ne]; exact ed
                    rw [ed4] at HN
                    clear ed ed4
                    cases a
                    all_goals
                      cases b
                      all_goals
                        go_wp2_with fail
                        go_round
                        case rel => exact ⟨k + 1, _, _, by go_num, by omega, rfl, rfl, HN.out⟩
                        case measure => simp [intOf]; omega
              · obtain rfl : k = n := by omega
                have HMA := hidden (show hits (42 :: escd x) s = a by
                  rw [HE.out, H.out.1, HA0.out]; simp [HLE.out])
                have HMB := hidden (show hits (escd x ++ [42]) s = b by
                  rw [HG.out, H.out.2, HB0.out, show (s.drop x.length).take k = s.drop x.length from List.take_of_length_le (by rw [List.length_drop]; omega)]; simp [HLE.out])
                clear H
                go_wp2_with fail
                rw [cat_text [42] (escd x)]
                refine (match_is (42 :: escd x) s _ _ HMA.out (by simp; omega) (by omega)).mono ?_
                rintro e w2 ⟨rfl, hb2⟩
                have HB2 := hidden (HB1.out.trans (hb2.mono HB1.out.size))
                clear hb2
                go_wp2_with fail
                rw [cat_text (escd x) [42]]
                refine (match_is (escd x ++ [42]) s _ _ HMB.out (by simp; omega) (by omega)).mono ?_
                rintro e w3 ⟨rfl, hb3⟩
                have HB3 := hidden (HB2.out.trans (hb3.mono HB2.out.size))
                clear hb3
                go_wp2_with fail
                go_ret
                exact ⟨by simp, HB3.out⟩
          · have HMA := hidden (show hits (42 :: escd x) s = false by rw [HE.out]; simp [hle])
            have HMB := hidden (show hits (escd x ++ [42]) s = false by rw [HG.out]; simp [hle])
            have hng : (s.length : Int) - x.length < 0 := by omega
            have hng2 : ¬ (0 : Int) ≤ (s.length : Int) - x.length := by omega
            have hng3 : ¬ (0 : Int) < (s.length : Int) - x.length := by omega
            clear ha0 hb0
            go_wp2_with fail
            refine wp_loop_rounds 1 ?_
            rw [rounds_succ]
            go_wp2_with fail
            rw [cat_text [42] (escd x)]
            refine (match_is (42 :: escd x) s _ _ HMA.out (by simp; omega) (by omega)).mono ?_
            rintro e w2 ⟨rfl, hb2⟩
            have HB2 := hidden (HB1.out.trans (hb2.mono HB1.out.size))
            clear hb2
            go_wp2_with fail
            rw [cat_text (escd x) [42]]
            refine (match_is (escd x ++ [42]) s _ _ HMB.out (by simp; omega) (by omega)).mono ?_
            rintro e w3 ⟨rfl, hb3⟩
            have HB3 := hidden (HB2.out.trans (hb3.mono HB2.out.size))
            clear hb3
            go_wp2_with fail
            go_ret
            exact ⟨by simp, HB3.out⟩
    · have h2' : (40 : Int) < s.length := by omega
      go_wp2_with fail
      go_ret
      exact ⟨rfl, HB1.out⟩
  · have h1' : (20 : Int) < x.length := by omega
    go_wp2_with fail
    go_ret
    exact ⟨rfl, HB1.out⟩

end Go.Proofs.Ythjhihpbilaifaa
