
/-
  The law ApplyNeeds answers true at whatever steps, lines, number and text of at most 1048576 steps, lines and bytes, and leaves what lay in memory as it was.
-/
import Derived.Test.YtophhgbkcdeidaaALaw
namespace Go.Proofs.Ytophhgbkcdeidaa
open Go.RowKit Go.Proofs.Ytophhgbkcdeidaa.Ln Go.Proofs.Ytophhgbkcdeidaa.Ol

set_option maxRecDepth 3000 in
set_option maxHeartbeats 8000000 in
theorem applyNeeds_any (v : Value) (xs : List Oq) (u : Value) (old : List Tx) (at_ : Int) (s : Tx) (w : World) (hX : OpsAt w v xs) (hlx : xs.length ≤ 1048576) (hfX : Fit xs) (hY : RowAt w u old) (hlo : old.length ≤ 1048576) (hno : old.flatten.length ≤ 1048576) (hs : s.length ≤ 1048576) :
    Calls Try.prog 6 #[v, u, .int .i64 at_, .string ⟨s.toArray⟩] w fun e w' => e = .returned (.bool true) ∧ Below w.heap.size w w' := by
  have HSL := hidden hs
  clear hs
  have HX0 := hidden hX
  have HY0 := hidden hY
  have HB0 := hidden (Below.refl w.heap.size w)
  have HFX := hidden hfX
  have HNO := hidden hno
  have HFO := hidden (fitT_flat hno)
  obtain ⟨ao, cap, rfl⟩ := hX.shape
  obtain ⟨bo, cap2, rfl⟩ := hY.shape
  clear hX hY hfX hno
  go_enter Try.func6, Try.ntmps6
  go_wp2_with fail
  refine (alive9_any _).mono ?_
  rintro e w1 ⟨rfl, hb⟩
  have HX1 := hidden (HX0.out.later hb)
  have HY1 := hidden (HY0.out.later hb)
  have HB1 := hidden (HB0.out.trans (hb.mono HB0.out.size))
  clear hb
  go_wp2_with fail
  refine (few_any _ xs w1 HX1.out (by omega)).mono ?_
  rintro e w' ⟨⟨c, rfl⟩, hw⟩
  subst w'
  cases c with
  | false =>
    go_wp2_with fail
    go_ret
    exact ⟨rfl, HB1.out⟩
  | true =>
    go_wp2_with fail
    refine (short_any _ old w1 HY1.out (by omega) (by have := HNO.out; omega)).mono ?_
    rintro e w2 ⟨⟨c, rfl⟩, hb⟩
    have HX2 := hidden (HX1.out.later hb)
    have HY2 := hidden (HY1.out.later hb)
    have HB2 := hidden (HB1.out.trans (hb.mono HB1.out.size))
    clear hb
    clear HX1 HY1 HB1
    cases c with
    | false =>
      go_wp2_with fail
      go_ret
      exact ⟨rfl, HB2.out⟩
    | true =>
      by_cases hat : at_ < 0
      · have hd : decide (at_ < 0) = true := by simpa using hat
        go_wp2_with fail
        go_ret
        exact ⟨rfl, HB2.out⟩
      have hd : decide (at_ < 0) = false := by simpa using hat
      clear hat
      have HND := hidden (fun (i : Nat) (x1 x2 : Int) (x3 : Tx) (hx : xs[i]? = some (x1, x2, x3)) (h1 : x1 ≠ 1) (h4 : x1 ≠ 4) (n : Nat) (hn : tot 3 (xs.take i) = n) (o : List Tx) => doo_needs hx h1 h4 n hn o)
      have HTH := hidden (fun (a : List Tx) (h : doo xs old = some a) (i : Nat) (x1 x2 : Int) (x3 : Tx) (hx : xs[i]? = some (x1, x2, x3)) (h1 : x1 ≠ 1) (h4 : x1 ≠ 4) (n : Nat) (hn : tot 3 (xs.take i) = n) => doo_there h hx h1 h4 n hn)
      have HDR := hidden (fun (a : List Tx) (h : doo xs old = some a) => (doo_some h).1)
      obtain ⟨r, hr⟩ : ∃ r, doo xs old = r := ⟨_, rfl⟩
      have HR := hidden hr
      cases r with
      | none =>
        clear hr
        go_wp2_with fail
        refine (fits_any _ xs _ old w2 HX2.out HY2.out (by omega) HFX.out HFO.out).mono ?_
        rw [HR.out]
        rintro e w3 ⟨rfl, hb⟩
        have HX3 := hidden (HX2.out.later hb)
        have HY3 := hidden (HY2.out.later hb)
        have HB3 := hidden (HB2.out.trans (hb.mono HB2.out.size))
        clear hb
        clear HX2 HY2 HB2
        go_wp2_with fail
        go_ret
        exact ⟨by first | rfl | simp, HB3.out⟩
      | some a =>
        have HRT := hidden (HDR.out a hr)
        have HT := hidden (HTH.out a hr)
        clear hr HDR HTH
        go_wp2_with fail
        refine (fits_any _ xs _ old w2 HX2.out HY2.out (by omega) HFX.out HFO.out).mono ?_
        rw [HR.out]
        rintro e w3 ⟨rfl, hb⟩
        have HX3 := hidden (HX2.out.later hb)
        have HY3 := hidden (HY2.out.later hb)
        have HB3 := hidden (HB2.out.trans (hb.mono HB2.out.size))
        clear hb
        clear HX2 HY2 HB2
        go_wp2_with fail
        have HAL := hidden (right_al0 HRT.out)
        have HTL := hidden (fun i => show tot 3 (xs.take i) ≤ 2147483648 by
          have h1 := tot_app 3 (xs.take i) (xs.drop i)
          rw [List.take_append_drop] at h1
          have h2 := (right_parts HRT.out).2.2.2.1
          have h3 := tot_pos 3 (xs.drop i)
          omega)
        have HXO := HX3.out.open_
        have hws := HB3.out.size
        go_loopw [10, 11] (fun z i wr => ∃ k t : Nat, k ≤ xs.length ∧ t ≤ 2147483648 ∧ z = .int .i64 t ∧ i = .int .i64 k ∧ Hid (tot 3 (xs.take k) = t) ∧ wr = w3) (fun _ i _ => xs.length - (intOf i).toNat)
        case atStart => exact ⟨0, 0, Nat.zero_le _, Nat.zero_le _, rfl, rfl, rfl, rfl⟩
        case round =>
          obtain ⟨k, t, hk, ht, rfl, rfl, hT, rfl⟩ := hrel
          by_cases hlt : k < xs.length
          · obtain ⟨x1, x2, x3, hx⟩ := op_some hlt
            obtain ⟨_, _, e, hcX⟩ := HXO
            cases e
            obtain ⟨b, o, hao, hcap, hb, hcc⟩ := hcX k _ hx
            subst hao
            obtain ⟨c1, c2, c3⟩ := three_later hb (Below.refl _ _) hcc
            simp only at c1 c2 c3
            have hal := HAL.out _ (List.mem_of_getElem? hx)
            simp only [al0] at hal
            have HXK := hidden hx
            clear hx hcX hcc
            by_cases h1 : x1 = 1
            · subst h1
              have hx2 : 1 ≤ x2 := by omega
              obtain ⟨n, rfl⟩ : ∃ n : Nat, x2 = n := ⟨x2.toNat, by omega⟩
              have HN := hidden (show tot 3 (xs.take (k + 1)) = ((t + n : Nat) : Int) by
                rw [take_snoc HXK.out, tot_snoc, hT.out]; simp only [ln, if_true]; omega)
              have hb2 : t + n ≤ 2147483648 := by have := HTL.out (k + 1); rw [HN.out] at this; omega
              go_wp2_with fail
              go_roundw
              case rel => exact ⟨k + 1, t + n, by omega, by omega, by go_num, by go_num, HN.out, by first | rfl | trivial⟩
              case measure => simp [intOf]; omega
            · have h1b : (x1 == 1) = false := by simpa using h1
              have h1c : (x1 != 1) = true := by simpa using h1
              by_cases h4 : x1 = 4
              · subst h4
                have HN := hidden (show tot 3 (xs.take (k + 1)) = (t : Int) by
                  rw [take_snoc HXK.out, tot_snoc, hT.out]; simp [ln])
                go_wp2_with fail
                go_roundw
                case rel => exact ⟨k + 1, t, by omega, by omega, by go_num, by go_num, HN.out, by first | rfl | trivial⟩
                case measure => simp [intOf]; omega
              · have h4b : (x1 == 4) = false := by simpa using h4
                have HN := hidden (show tot 3 (xs.take (k + 1)) = ((t + 1 : Nat) : Int) by
                  rw [take_snoc HXK.out, tot_snoc, hT.out]
                  have : x1 = 2 ∨ x1 = 3 := by omega
                  rcases this with rfl | rfl <;> simp [ln])
                have hb2 : t + 1 ≤ 2147483648 := by have := HTL.out (k + 1); rw [HN.out] at this; omega
                have HO := hidden (HT.out k x1 x2 x3 HXK.out h1 h4 t hT.out)
                by_cases hat : at_ = t
                · subst hat
                  by_cases hts : s = x3
                  · subst hts
                    have hq : (s != s) = false := by simp
                    go_wp2_with fail
                    go_roundw
                    case rel => exact ⟨k + 1, t + 1, by omega, by omega, by go_num, by go_num, HN.out, by first | rfl | trivial⟩
                    case measure => simp [intOf]; omega
                  · have hq : (s != x3) = true := by simpa using hts
                    have hq2 : (s == x3) = false := by simpa using hts
                    have htl := (List.getElem?_eq_some_iff.1 HO.out).1
                    obtain ⟨_, _, e, hcY⟩ := HY3.out.open_
                    cases e
                    obtain ⟨b2, o2, hbo, hcap2, hb2', _⟩ := hcY t x3 HO.out
                    subst hbo
                    have HN1 := hidden (show doo xs (old.set t s) = none from HND.out k x1 x2 x3 HXK.out h1 h4 t hT.out (old.set t s) (by rw [List.getElem?_set_self htl]; simpa using hts))
                    have HN2 := hidden (show doo xs (old.take t) = none from HND.out k x1 x2 x3 HXK.out h1 h4 t hT.out (old.take t) (by rw [List.getElem?_eq_none (by rw [List.length_take]; omega)]; simp))
                    have HF1 := hidden (show FitT (old.set t s) from fun y hy => by
                      rcases List.mem_or_eq_of_mem_set hy with h | rfl
                      · exact HFO.out y h
                      · have := HSL.out; omega)
                    have HF2 := hidden (show FitT (old.take t) from fun y hy => HFO.out y (List.mem_of_mem_take hy))
                    have HH := hidden (RowAt.head (k := t) HY0.out rfl (by omega))
                    have HTK := hidden (show (old.take t).length ≤ 1048576 by rw [List.length_take]; omega)
                    clear hcY
                    go_wp2_with (at_builtin; go_must (refine wpList_append_txt _ (by go_simp) _ _ rfl wr.heap.size (.slice none 0 0) _ [] old rfl rfl ⟨rfl, Or.inl ⟨rfl, rfl⟩⟩ HY3.out (by simp; omega) (Nat.le_refl _) ?_; intro v9 w9 hown9 hadd9; rw [List.nil_append] at hown9; obtain ⟨co, cp, rfl, hco⟩ := owns_formT hown9; obtain ⟨g9, hg9, hcp9, hgB9, hgl9⟩ := hco t x3 HO.out; subst hg9; have q9 := owns_cellT hown9 HO.out; have f9 := owns_thawT hown9 t))
                    have hb9 := (adds_nil hadd9).setCell (p := ⟨g9, t, none⟩) hgB9 (.string ⟨s.toArray⟩)
                    have HR9 := hidden (RowAt.of_owns (owns_setT s hown9 htl))
                    have HX9 := hidden (HX3.out.later hb9)
                    have HH9 := hidden (HH.out.later (HB3.out.trans (hb9.mono HB3.out.size)))
                    have HB9 := hidden (HB3.out.trans (hb9.mono HB3.out.size))
                    clear hb9 q9 f9 hadd9 hown9 hco c1 c2 c3
                    generalize World.setCell w9 _ _ = W9 at HR9 HX9 HH9 HB9 ⊢
                    refine (fits_any _ xs _ (old.set t s) W9 HX9.out HR9.out (by rw [List.length_set]; omega) HFX.out HF1.out).mono ?_
                    rw [HN1.out]
                    rintro e w10 ⟨rfl, hb⟩
                    have HX10 := hidden (HX9.out.later hb)
                    have HH10 := hidden (HH9.out.later hb)
                    have HB10 := hidden (HB9.out.trans (hb.mono HB9.out.size))
                    clear hb
                    have htl2 : t ≤ cap2 := by omega
                    go_wp2_with fail
                    refine (fits_any _ xs _ (old.take t) w10 HX10.out HH10.out (by have := HTK.out; omega) HFX.out HF2.out).mono ?_
                    rw [HN2.out]
                    rintro e w11 ⟨rfl, hb⟩
                    have HB11 := hidden (HB10.out.trans (hb.mono HB10.out.size))
                    clear hb
                    go_wp2_with fail
                    go_ret
                    exact ⟨rfl, HB11.out⟩
                · have hatb : (at_ == (t : Int)) = false := by simpa using hat
                  go_wp2_with fail
                  go_roundw
                  case rel => exact ⟨k + 1, t + 1, by omega, by omega, by go_num, by go_num, HN.out, by first | rfl | trivial⟩
                  case measure => simp [intOf]; omega
          · go_wp2_with fail
            go_ret
            exact ⟨rfl, HB3.out⟩

end Go.Proofs.Ytophhgbkcdeidaa
