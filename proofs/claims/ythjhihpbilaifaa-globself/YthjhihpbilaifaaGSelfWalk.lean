/-
  The law GlobSelf, called with any two texts and a bool, returns true, and nothing of what was in memory has turned; conditions: the lengths of both.
-/
import Derived.Test.YthjhihpbilaifaaGCat
namespace Go.Proofs.Ythjhihpbilaifaa
open Go.RowKit Go.Proofs.Ythjhihpbilaifaa.Gl

theorem gr_step {x o : Tx} {i m : Nat} {c : UInt8} (h : gr x (o.take i) = x.drop m) (hc : o[i]? = some c) : gr x (o.take (i + 1)) = gr (x.drop m) [c] := by
  rw [List.take_add_one, hc, gr_app, h]
  rfl
theorem gr_hit {x : Tx} {m : Nat} {d : UInt8} (hd : x[m]? = some d) : gr (x.drop m) [d] = x.drop (m + 1) := by
  rw [drop_at hd, gr, if_pos rfl]
  cases x.drop (m + 1) <;> rfl
theorem gr_miss {x : Tx} {m : Nat} {c d : UInt8} (hd : x[m]? = some d) (h : ¬ c = d) : gr (x.drop m) [c] = x.drop m := by
  rw [drop_at hd, gr, if_neg h]
  rfl
theorem gr_over {x : Tx} {m : Nat} {c : UInt8} (h : ¬ m < x.length) : gr (x.drop m) [c] = x.drop m := by
  rw [List.drop_eq_nil_of_le (by omega)]
  rfl

set_option maxHeartbeats 8000000 in
set_option maxRecDepth 3000 in
theorem globSelf_any (x o : Tx) (b : Bool) (w : World) (hx : x.length ≤ 281474976710656) (ho : o.length ≤ 281474976710656) :
    Calls Try.prog 4 #[S x, S o, .bool b] w fun e w' => e = .returned (.bool true) ∧ Below w.heap.size w w' := by
  unfold S
  go_enter Try.func4, Try.ntmps4
  go_wp2_with fail
  refine (alive_any _).mono ?_
  rintro e w1 ⟨rfl, hb1⟩
  have HB1 := hidden hb1
  clear hb1
  by_cases h1 : x.length ≤ 40
  · have h1' : ¬ (40 : Int) < x.length := by omega
    have h1d : decide ((40 : Int) < x.length) = false := decide_eq_false h1'
    by_cases h2 : o.length ≤ 60
    · have h2' : ¬ (60 : Int) < o.length := by omega
      have h2d : decide ((60 : Int) < o.length) = false := decide_eq_false h2'
      cases b with
      | false =>
        go_wp2_with fail
        go_loop [8, 9] (fun q i => ∃ k : Nat, i = .int .i64 k ∧ k ≤ x.length ∧ q = .string ⟨(escd (x.take k)).toArray⟩)
          (fun _ i => x.length - (intOf i).toNat)
        case atStart => exact ⟨0, rfl, Nat.zero_le _, rfl⟩
        case round =>
          obtain ⟨k, rfl, hk, rfl⟩ := hrel
          by_cases hlt : k < x.length
          · have hel : (escd (x.take k)).length ≤ 100 := by rw [escd_len, List.length_take]; omega
            go_wp2_with fail
            refine ⟨⟨k + 1, by go_num, by omega, ?_⟩, ?_⟩
            · rw [one_of x k hlt, cat_text (escd (x.take k)) [92], cat_text, escd_more x k hlt]
            · simp [intOf]; omega
          · obtain rfl : k = x.length := by omega
            rw [List.take_length]
            have hl : (escd x).length ≤ 100 := by rw [escd_len]; omega
            have HE := hidden (hits_escd x)
            obtain ⟨r, hr⟩ : ∃ r, (x == o) = r := ⟨_, rfl⟩
            have HR := hidden (show hits (escd x) o = r by rw [HE.out, ← hr, Bool.eq_iff_iff]; simp)
            clear hk hlt
            go_wp2_with fail
            refine (match_is (escd x) x true _ (by rw [HE.out]; simp) (by omega) (by omega)).mono ?_
            rintro e w2 ⟨rfl, hb2⟩
            have HB2 := hidden (HB1.out.trans (hb2.mono HB1.out.size))
            clear hb2
            go_wp2_with fail
            refine (match_is (escd x) o r _ HR.out (by omega) (by omega)).mono ?_
            rintro e w3 ⟨rfl, hb3⟩
            have HB3 := hidden (HB2.out.trans (hb3.mono HB2.out.size))
            clear hb3
            go_wp2_with fail
            go_ret
            exact ⟨by simp, HB3.out⟩
      | true =>
        go_wp2_with fail
        go_loop [8, 9] (fun q i => ∃ k : Nat, i = .int .i64 k ∧ k ≤ x.length ∧ q = .string ⟨(stard (x.take k)).toArray⟩)
          (fun _ i => x.length - (intOf i).toNat)
        case atStart => exact ⟨0, rfl, Nat.zero_le _, rfl⟩
        case round =>
          obtain ⟨k, rfl, hk, rfl⟩ := hrel
          by_cases hlt : k < x.length
          · have hel : (stard (x.take k)).length ≤ 200 := by rw [stard_len, List.length_take]; omega
            go_wp2_with fail
            refine ⟨⟨k + 1, by go_num, by omega, ?_⟩, ?_⟩
            · rw [one_of x k hlt, cat_text (stard (x.take k)) [42], cat_text _ [92], cat_text, stard_more x k hlt]
            · simp [intOf]; omega
          · obtain rfl : k = x.length := by omega
            rw [List.take_length]
            have hl : (stard x).length ≤ 200 := by rw [stard_len]; omega
            clear hk hlt
            go_wp2_with fail
            rw [cat_text (stard x) [42]]
            refine (match_is (stard x ++ [42]) x true _ (hits_self x) (by simp; omega) (by omega)).mono ?_
            rintro e w2 ⟨rfl, hb2⟩
            have HB2 := hidden (HB1.out.trans (hb2.mono HB1.out.size))
            clear hb2
            have HP := hidden (hits_stard x o)
            obtain ⟨pt, hpt⟩ : ∃ pt, pt = stard x ++ [42] := ⟨_, rfl⟩
            have hptl : pt.length ≤ 300 := by rw [hpt]; simp; omega
            rw [← hpt]
            rw [← hpt] at HP
            clear hpt
            go_wp2_with fail
            go_loop [6, 10] (fun _ i => ∃ k : Nat, i = .int .i64 k ∧ k ≤ x.length ∧ Hid (slashes (x.take k) = 0))
              (fun _ i => x.length - (intOf i).toNat)
            case atStart => exact ⟨0, rfl, Nat.zero_le _, rfl⟩
            case round =>
              obtain ⟨k, rfl, hk, HS⟩ := hrel
              by_cases hlt : k < x.length
              · obtain ⟨c, hc⟩ : ∃ c, x[k]? = some c := ⟨x[k], List.getElem?_eq_getElem hlt⟩
                have hbc : ∀ h, (⟨x.toArray⟩ : ByteArray)[k]'h = c := fun h => by rw [byte_at, List.getD_eq_getElem?_getD, hc]; rfl
                have HSL := hidden (slashes_snoc x k c hc)
                clear hc
                by_cases ec : c = 47
                · subst ec
                  go_wp2_with fail
                  go_ret
                  exact ⟨rfl, HB2.out⟩
                · have f47 := byte_ne (n := 47) ec
                  have HS2 := hidden (show slashes (x.take (k + 1)) = 0 from by rw [HSL.out, HS.out, if_neg ec])
                  clear ec
                  go_wp2_with fail
                  first | (go_round; case rel => exact ⟨k + 1, by go_num, by omega, HS2.out⟩; case measure => simp [intOf]; omega) | exact ⟨⟨k + 1, by go_num, by omega, HS2.out⟩, by simp [intOf]; omega⟩
              · obtain rfl : k = x.length := by omega
                have HP2 := hidden (HP.out (by have := HS.out; rw [List.take_length] at this; exact this))
                clear hk hlt HS
                go_wp2_with fail
                go_loopw [11, 12, 13] (fun qm qf qi wr => ∃ (i m : Nat) (fr : Bool), qi = .int .i64 i ∧ i ≤ o.length ∧ qm = .int .i64 m ∧ m ≤ x.length ∧ qf = .bool fr ∧ Hid (gr x (o.take i) = x.drop m ∧ fr = (slashes (o.take i) == 0) ∧ Below w.heap.size w wr))
                  (fun _ _ qi _ => o.length - (intOf qi).toNat)
                case atStart => exact ⟨0, 0, true, rfl, Nat.zero_le _, rfl, Nat.zero_le _, rfl, by cases x <;> rfl, rfl, HB2.out⟩
                case round =>
                  obtain ⟨i, m, fr, rfl, hi, rfl, hm, rfl, hg, hf, hbr⟩ := hrel
                  have HG := hidden hg
                  have HF := hidden hf
                  have HB := hidden hbr
                  clear hg hf hbr
                  by_cases hlt : i < o.length
                  · obtain ⟨c, hc⟩ : ∃ c, o[i]? = some c := ⟨o[i], List.getElem?_eq_getElem hlt⟩
                    have hbc : ∀ h, (⟨o.toArray⟩ : ByteArray)[i]'h = c := fun h => by rw [byte_at, List.getD_eq_getElem?_getD, hc]; rfl
                    have HSL := hidden (show (slashes (o.take (i + 1)) == 0) = (fr && c != 47) from by
                      rw [slashes_snoc o i c hc, HF.out]
                      by_cases e : c = 47 <;> simp [e])
                    have HGS := hidden (gr_step HG.out hc)
                    clear hc
                    by_cases hml : m < x.length
                    · obtain ⟨d, hd⟩ : ∃ d, x[m]? = some d := ⟨x[m], List.getElem?_eq_getElem hml⟩
                      have hbd : ∀ h, (⟨x.toArray⟩ : ByteArray)[m]'h = d := fun h => by rw [byte_at, List.getD_eq_getElem?_getD, hd]; rfl
                      by_cases ecd : c = d
                      · subst ecd
                        have HG2 := hidden (HGS.out.trans (gr_hit hd))
                        clear hd
                        cases fr with
                        | false =>
                          have HF2 := hidden (show false = (slashes (o.take (i + 1)) == 0) from by rw [HSL.out]; rfl)
                          go_wp2_with fail
                          go_quiet (fail)
                          go_wp2_with fail
                          go_roundw
                          case rel => exact ⟨i + 1, m + 1, false, by go_num, by omega, by go_num, by omega, rfl, HG2.out, HF2.out, below_drewN HB.out nq⟩
                          case measure => simp [intOf]; omega
                        | true =>
                          by_cases e47 : c = 47
                          · subst e47
                            have HF2 := hidden (show false = (slashes (o.take (i + 1)) == 0) from by rw [HSL.out]; rfl)
                            go_wp2_with fail
                            go_quiet (fail)
                            go_wp2_with fail
                            go_roundw
                            case rel => exact ⟨i + 1, m + 1, false, by go_num, by omega, by go_num, by omega, rfl, HG2.out, HF2.out, below_drewN HB.out nq⟩
                            case measure => simp [intOf]; omega
                          · have f47 := byte_ne (n := 47) e47
                            have g47 : ((c.toNat : Int) != 47) = true := by rw [bne_iff_ne]; exact f47
                            have HF2 := hidden (show true = (slashes (o.take (i + 1)) == 0) from by rw [HSL.out]; simpa using e47)
                            clear e47
                            go_wp2_with fail
                            go_quiet (fail)
                            go_wp2_with fail
                            go_roundw
                            case rel => exact ⟨i + 1, m + 1, true, by go_num, by omega, by go_num, by omega, rfl, HG2.out, HF2.out, below_drewN HB.out nq⟩
                            case measure => simp [intOf]; omega
                      · have ecn : ¬ (c.toNat : Int) = d.toNat := fun e => ecd (UInt8.toNat_inj.1 (by exact_mod_cast e))
                        have ecb : ((c.toNat : Int) == d.toNat) = false := by rw [beq_eq_false_iff_ne]; exact ecn
                        have HG2 := hidden (HGS.out.trans (gr_miss hd ecd))
                        clear hd ecd
                        cases fr with
                        | false =>
                          have HF2 := hidden (show false = (slashes (o.take (i + 1)) == 0) from by rw [HSL.out]; rfl)
                          go_wp2_with fail
                          go_quiet (fail)
                          go_wp2_with fail
                          go_roundw
                          case rel => exact ⟨i + 1, m, false, by go_num, by omega, by go_num, by omega, rfl, HG2.out, HF2.out, below_drewN HB.out nq⟩
                          case measure => simp [intOf]; omega
                        | true =>
                          by_cases e47 : c = 47
                          · subst e47
                            have ecm : ¬ (47 : Int) = d.toNat := ecn
                            have ecm2 : ((47 : Int) == d.toNat) = false := ecb
                            have HF2 := hidden (show false = (slashes (o.take (i + 1)) == 0) from by rw [HSL.out]; rfl)
                            go_wp2_with fail
                            go_quiet (fail)
                            go_wp2_with fail
                            go_roundw
                            case rel => exact ⟨i + 1, m, false, by go_num, by omega, by go_num, by omega, rfl, HG2.out, HF2.out, below_drewN HB.out nq⟩
                            case measure => simp [intOf]; omega
                          · have f47 := byte_ne (n := 47) e47
                            have g47 : ((c.toNat : Int) != 47) = true := by rw [bne_iff_ne]; exact f47
                            have HF2 := hidden (show true = (slashes (o.take (i + 1)) == 0) from by rw [HSL.out]; simpa using e47)
                            clear e47
                            go_wp2_with fail
                            go_quiet (fail)
                            go_wp2_with fail
                            go_roundw
                            case rel => exact ⟨i + 1, m, true, by go_num, by omega, by go_num, by omega, rfl, HG2.out, HF2.out, below_drewN HB.out nq⟩
                            case measure => simp [intOf]; omega
                    · have hmlI : ¬ (m : Int) < x.length := by omega
                      have HG2 := hidden (HGS.out.trans (gr_over hml))
                      cases fr with
                      | false =>
                        have HF2 := hidden (show false = (slashes (o.take (i + 1)) == 0) from by rw [HSL.out]; rfl)
                        go_wp2_with fail
                        go_quiet (fail)
                        go_wp2_with fail
                        go_roundw
                        case rel => exact ⟨i + 1, m, false, by go_num, by omega, by go_num, by omega, rfl, HG2.out, HF2.out, below_drewN HB.out nq⟩
                        case measure => simp [intOf]; omega
                      | true =>
                        by_cases e47 : c = 47
                        · subst e47
                          have HF2 := hidden (show false = (slashes (o.take (i + 1)) == 0) from by rw [HSL.out]; rfl)
                          go_wp2_with fail
                          go_quiet (fail)
                          go_wp2_with fail
                          go_roundw
                          case rel => exact ⟨i + 1, m, false, by go_num, by omega, by go_num, by omega, rfl, HG2.out, HF2.out, below_drewN HB.out nq⟩
                          case measure => simp [intOf]; omega
                        · have f47 := byte_ne (n := 47) e47
                          have g47 : ((c.toNat : Int) != 47) = true := by rw [bne_iff_ne]; exact f47
                          have HF2 := hidden (show true = (slashes (o.take (i + 1)) == 0) from by rw [HSL.out]; simpa using e47)
                          clear e47
                          go_wp2_with fail
                          go_quiet (fail)
                          go_wp2_with fail
                          go_roundw
                          case rel => exact ⟨i + 1, m, true, by go_num, by omega, by go_num, by omega, rfl, HG2.out, HF2.out, below_drewN HB.out nq⟩
                          case measure => simp [intOf]; omega
                  · obtain rfl : i = o.length := by omega
                    have HE := hidden (show hits pt o = (fr && decide (m = x.length)) from by
                      have hg := HG.out
                      have hf := HF.out
                      rw [List.take_length] at hg hf
                      rw [HP2.out, hf, hg, Bool.eq_iff_iff]
                      simp
                      intro _
                      omega)
                    clear HG HF HP2
                    go_wp2_with fail
                    refine (match_is pt o _ _ HE.out (by omega) (by omega)).mono ?_
                    rintro e w3 ⟨rfl, hb3⟩
                    have HB3 := hidden (HB.out.trans (hb3.mono HB.out.size))
                    clear hb3
                    cases fr with
                    | false =>
                      go_wp2_with fail
                      go_ret
                      exact ⟨by simp, HB3.out⟩
                    | true =>
                      by_cases hmx : m = x.length
                      · subst hmx
                        go_wp2_with fail
                        go_ret
                        exact ⟨by simp, HB3.out⟩
                      · have hmb : ((m : Int) == x.length) = false := by rw [beq_eq_false_iff_ne]; omega
                        have hmd : decide (m = x.length) = false := decide_eq_false hmx
                        go_wp2_with fail
                        go_ret
                        exact ⟨by simp, HB3.out⟩
    · have h2' : (60 : Int) < o.length := by omega
      go_wp2_with fail
      go_ret
      exact ⟨rfl, HB1.out⟩
  · have h1' : (40 : Int) < x.length := by omega
    go_wp2_with fail
    go_ret
    exact ⟨rfl, HB1.out⟩

end Go.Proofs.Ythjhihpbilaifaa
