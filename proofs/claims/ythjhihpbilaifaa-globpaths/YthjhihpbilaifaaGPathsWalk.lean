/-
  The law GlobPaths, called with any three texts, returns true, and nothing of what was in memory has turned; conditions: the lengths of all three.
-/
import Derived.Test.YthjhihpbilaifaaGCat
namespace Go.Proofs.Ythjhihpbilaifaa
open Go.RowKit Go.Proofs.Ythjhihpbilaifaa.Gl

theorem iff_not {P : Prop} (h : ¬ P) : (false = true) ↔ P := ⟨fun e => absurd e Bool.false_ne_true, fun e => absurd e h⟩
theorem byte_eq {B : ByteArray} {l : Tx} (e : B = ⟨l.toArray⟩) (k : Nat) (h : k < B.size) : B[k]'h = l.getD k 0 := by subst e; exact byte_at l k h
theorem parted_more (p q s : Tx) (k : Nat) : parted p q s (k + 1) ↔ parted p q s k ∨ (s[k]? = some 47 ∧ hits p (s.take k) = true ∧ hits q (s.drop (k + 1)) = true) := by
  unfold parted
  constructor
  · rintro ⟨j, hj, h⟩
    by_cases hjk : j = k
    · subst hjk; exact Or.inr h
    · exact Or.inl ⟨j, by omega, h⟩
  · rintro (⟨j, hj, h⟩ | h)
    · exact ⟨j, by omega, h⟩
    · exact ⟨k, by omega, h⟩

set_option maxHeartbeats 4000000 in
theorem globPaths_any (p q s : Tx) (w : World) (hp : p.length ≤ 281474976710656) (hq : q.length ≤ 281474976710656) (hs : s.length ≤ 281474976710656) :
    Calls Try.prog 7 #[S p, S q, S s] w fun e w' => e = .returned (.bool true) ∧ Below w.heap.size w w' := by
  unfold S
  go_enter Try.func7, Try.ntmps7
  go_wp2_with fail
  refine (alive_any _).mono ?_
  rintro e w1 ⟨rfl, hb1⟩
  have HB1 := hidden hb1
  clear hb1
  by_cases h1 : p.length ≤ 20
  · have h1' : ¬ (20 : Int) < p.length := by omega
    have h1d : decide ((20 : Int) < p.length) = false := decide_eq_false h1'
    by_cases h2 : q.length ≤ 20
    · have h2' : ¬ (20 : Int) < q.length := by omega
      have h2d : decide ((20 : Int) < q.length) = false := decide_eq_false h2'
      by_cases h3 : s.length ≤ 40
      · have h3' : ¬ (40 : Int) < s.length := by omega
        have h3d : decide ((40 : Int) < s.length) = false := decide_eq_false h3'
        go_wp2_with fail
        go_loop [8, 9] (fun i _ => ∃ k : Nat, i = .int .i64 k ∧ k ≤ p.length + q.length ∧ Hid (∀ c ∈ (p ++ q).take k, c ≠ 91 ∧ c ≠ 92))
          (fun i _ => p.length + q.length - (intOf i).toNat)
        case atStart => exact ⟨0, rfl, Nat.zero_le _, fun c hc => by cases hc⟩
        case round =>
          obtain ⟨k, rfl, hk, H⟩ := hrel
          by_cases hlt : k < p.length + q.length
          · have hltI : (k : Int) < (p.length : Int) + q.length := by omega
            obtain ⟨c, hc⟩ : ∃ c, (p ++ q)[k]? = some c := ⟨(p ++ q)[k]'(by simpa using hlt), List.getElem?_eq_getElem _⟩
            have hbc : ∀ h, ((⟨p.toArray⟩ : ByteArray) ++ (⟨q.toArray⟩ : ByteArray))[k]'h = c := fun h => by rw [byte_eq (cat_text p q), List.getD_eq_getElem?_getD, hc]; rfl
            have HN := hidden (show c ≠ 91 → c ≠ 92 → ∀ d ∈ (p ++ q).take (k + 1), d ≠ 91 ∧ d ≠ 92 by
              intro e1 e2 d hd
              rw [List.take_add_one, hc] at hd
              rcases List.mem_append.1 hd with hd | hd
              · exact H.out d hd
              · simp at hd; subst hd; exact ⟨e1, e2⟩)
            clear hc H
            by_cases e1 : c = 91
            · subst e1
              go_wp2_with fail
              go_ret
              exact ⟨rfl, HB1.out⟩
            · have f1 := byte_ne (n := 91) e1
              have g1 : ((c.toNat : Int) == 91) = false := by rw [beq_eq_false_iff_ne]; exact f1
              by_cases e2 : c = 92
              · subst e2
                go_wp2_with fail
                go_ret
                exact ⟨rfl, HB1.out⟩
              · have f2 := byte_ne (n := 92) e2
                have g2 : ((c.toNat : Int) == 92) = false := by rw [beq_eq_false_iff_ne]; exact f2
                have HN2 := hidden (HN.out e1 e2)
                by_cases e3 : c = 47
                · subst e3
                  go_wp2_with fail
                  go_ret
                  exact ⟨rfl, HB1.out⟩
                · have f3 := byte_ne (n := 47) e3
                  have g3 : ((c.toNat : Int) == 47) = false := by rw [beq_eq_false_iff_ne]; exact f3
                  clear e1 e2 e3
                  go_wp2_with fail
                  first | (go_round; case rel => exact ⟨k + 1, by go_num, by omega, HN2.out⟩; case measure => simp [intOf]; omega) | exact ⟨⟨k + 1, by go_num, by omega, HN2.out⟩, by simp [intOf]; omega⟩
          · obtain rfl : k = p.length + q.length := by omega
            have HP := hidden (show ∀ c ∈ p, c ≠ 91 ∧ c ≠ 92 from fun c hc => H.out c (by rw [List.take_of_length_le (by simp)]; exact List.mem_append_left _ hc))
            clear hk hlt H
            go_wp2_with fail
            go_loopw [10, 11] (fun q' i wr => ∃ (k : Nat) (b : Bool), i = .int .i64 k ∧ k ≤ s.length ∧ q' = .bool b ∧ Hid ((b = true ↔ parted p q s k) ∧ Below w.heap.size w wr))
              (fun _ i _ => s.length - (intOf i).toNat)
            case atStart => exact ⟨0, false, rfl, Nat.zero_le _, rfl, iff_not (fun ⟨j, hj, _⟩ => Nat.not_lt_zero j hj), HB1.out⟩
            case round =>
              obtain ⟨k, b, rfl, hk, rfl, hiff, hbr⟩ := hrel
              have HI := hidden hiff
              have HB := hidden hbr
              clear hiff hbr
              by_cases hlt : k < s.length
              · obtain ⟨c, hc⟩ : ∃ c, s[k]? = some c := ⟨s[k], List.getElem?_eq_getElem hlt⟩
                have hbc : ∀ h, (⟨s.toArray⟩ : ByteArray)[k]'h = c := fun h => by rw [byte_at, List.getD_eq_getElem?_getD, hc]; rfl
                have HM := hidden (parted_more p q s k)
                have HC := hidden hc
                clear hc
                cases b with
                | true =>
                  have HN := hidden (show (true = true) ↔ parted p q s (k + 1) from ⟨fun _ => HM.out.2 (Or.inl (HI.out.1 rfl)), fun _ => rfl⟩)
                  go_wp2_with fail
                  go_roundw
                  case rel => exact ⟨k + 1, true, by go_num, by omega, rfl, HN.out, HB.out⟩
                  case measure => simp [intOf]; omega
                | false =>
                  have HNO := hidden (show ¬ parted p q s k from fun h => by have := HI.out.2 h; cases this)
                  by_cases ec : c = 47
                  · subst ec
                    have hkI : (0 : Int) ≤ (k : Int) := by omega
                    go_wp2_with fail
                    rw [ext_text s 0 k, List.drop_zero, Nat.sub_zero]
                    refine (match_any p (s.take k) _ (by omega) (by rw [List.length_take]; omega)).mono ?_
                    rintro e w2 ⟨rfl, hb2⟩
                    have HB2 := hidden (HB.out.trans (hb2.mono HB.out.size))
                    clear hb2
                    cases hm1 : hits p (s.take k) with
                    | false =>
                      have HN := hidden (show (false = true) ↔ parted p q s (k + 1) from iff_not fun h => (HM.out.1 h).elim HNO.out fun h => Bool.false_ne_true (hm1.symm.trans h.2.1))
                      clear hm1
                      go_wp2_with fail
                      go_roundw
                      case rel => exact ⟨k + 1, false, by go_num, by omega, rfl, HN.out, HB2.out⟩
                      case measure => simp [intOf]; omega
                    | true =>
                      have HM1 := hidden hm1
                      clear hm1
                      go_wp2_with fail
                      rw [ext_text s (k + 1) s.length, List.take_of_length_le (by rw [List.length_drop]; omega)]
                      refine (match_any q (s.drop (k + 1)) _ (by omega) (by rw [List.length_drop]; omega)).mono ?_
                      rintro e w3 ⟨rfl, hb3⟩
                      have HB3 := hidden (HB2.out.trans (hb3.mono HB2.out.size))
                      clear hb3
                      obtain ⟨r, hr⟩ : ∃ r, r = hits q (s.drop (k + 1)) := ⟨_, rfl⟩
                      rw [← hr]
                      have HN := hidden (show (r = true) ↔ parted p q s (k + 1) from ⟨fun h => HM.out.2 (Or.inr ⟨HC.out, HM1.out, hr.symm.trans h⟩), fun h => (HM.out.1 h).elim (fun h => absurd h HNO.out) fun h => hr.trans h.2.2⟩)
                      clear hr
                      go_wp2_with fail
                      go_roundw
                      case rel => exact ⟨k + 1, r, by go_num, by omega, rfl, HN.out, HB3.out⟩
                      case measure => simp [intOf]; omega
                  · have f3 := byte_ne (n := 47) ec
                    have g3 : ((c.toNat : Int) == 47) = false := by rw [beq_eq_false_iff_ne]; exact f3
                    have HN := hidden (show (false = true) ↔ parted p q s (k + 1) from iff_not fun h => (HM.out.1 h).elim HNO.out fun h => ec (Option.some.inj (HC.out.symm.trans h.1)))
                    clear ec
                    go_wp2_with fail
                    go_roundw
                    case rel => exact ⟨k + 1, false, by go_num, by omega, rfl, HN.out, HB.out⟩
                    case measure => simp [intOf]; omega
              · obtain rfl : k = s.length := by omega
                have HE := hidden (show hits (p ++ 47 :: q) s = b by
                  rw [Bool.eq_iff_iff, hits_paths p q s HP.out]; exact HI.out.symm)
                go_wp2_with fail
                rw [cat_text p [47], cat_text (p ++ [47]) q, List.append_assoc]
                refine (match_is (p ++ 47 :: q) s b _ HE.out (by simp; omega) (by omega)).mono ?_
                rintro e w2 ⟨rfl, hb2⟩
                have HB2 := hidden (HB.out.trans (hb2.mono HB.out.size))
                clear hb2
                go_wp2_with fail
                go_ret
                exact ⟨by simp, HB2.out⟩
      · have h3' : (40 : Int) < s.length := by omega
        go_wp2_with fail
        go_ret
        exact ⟨rfl, HB1.out⟩
    · have h2' : (20 : Int) < q.length := by omega
      go_wp2_with fail
      go_ret
      exact ⟨rfl, HB1.out⟩
  · have h1' : (20 : Int) < p.length := by omega
    go_wp2_with fail
    go_ret
    exact ⟨rfl, HB1.out⟩

end Go.Proofs.Ythjhihpbilaifaa
