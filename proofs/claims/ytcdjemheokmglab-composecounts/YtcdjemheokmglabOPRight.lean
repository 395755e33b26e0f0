
/-
  What the document's own Right answers at any steps that lie in memory; conditions: the list's and the texts' lengths.
-/
import Derived.Test.YtcdjemheokmglabORef
namespace Go.Proofs.Ytcdjemheokmglab
open Go.RowKit Go.Proofs.Ytcdjemheokmglab.Ln Go.Proofs.Ytcdjemheokmglab.Ol

theorem rsl_take {own : Int} {xs : List Oq} {k : Nat} {x : Oq} (h : xs[k]? = some x) : rsl own (xs.take (k + 1)) = rs own (rsl own (xs.take k)) x := by
  rw [take_snoc h, rsl_snoc]
theorem broken {own : Int} {xs : List Oq} {k : Nat} {x : Oq} (h : xs[k]? = some x) (he : rsl own (xs.take k) = some true) (ho : on own x = true) : rsl own xs = none := by
  have e := cut_at h
  unfold rsl at he ⊢
  conv => lhs; rw [e]
  rw [List.foldl_append, he, List.foldl_cons]
  have : rs own (some true) x = none := by simp [rs, ho]
  rw [this, rs_none]
theorem broken3 {xs : List Oq} {k : Nat} {x : Oq} (h : xs[k]? = some x) (he : rsl 3 (xs.take k) = some true) (ho : on 3 x = true) : right xs = false := by
  rw [right_eq, sideB, broken h he ho]; simp
theorem broken4 {xs : List Oq} {k : Nat} {x : Oq} (h : xs[k]? = some x) (he : rsl 4 (xs.take k) = some true) (ho : on 4 x = true) : right xs = false := by
  rw [right_eq, sideB, sideB, broken h he ho]; simp
/-- how the document's reader of steps stands -/
def RSt (xs : List Oq) (k : Nat) (oe ne : Bool) : Prop := (xs.take k).all alone = true ∧ rsl 3 (xs.take k) = some oe ∧ rsl 4 (xs.take k) = some ne
theorem RSt.step {xs : List Oq} {k : Nat} {oe ne oe' ne' : Bool} {x : Oq} (h : RSt xs k oe ne) (hx : xs[k]? = some x) (ha : alone x = true) (h3 : rs 3 (some oe) x = some oe') (h4 : rs 4 (some ne) x = some ne') : RSt xs (k + 1) oe' ne' :=
  ⟨all_snoc hx h.1 ha, by rw [rsl_take hx, h.2.1, h3], by rw [rsl_take hx, h.2.2, h4]⟩

set_option maxRecDepth 3000 in
set_option maxHeartbeats 16000000 in
theorem pright_any (v : Value) (xs : List Oq) (w : World) (hr : OpsAt w v xs) (hl : xs.length ≤ 4398046511104) (hf : Fit xs) :
    Calls Try.prog 6 #[v] w fun e w' => e = .returned (.bool (right xs)) ∧ Below w.heap.size w w' := by
  have HR := hidden hr
  have HF := hidden hf
  have HEND := hidden (show ∀ oe ne, RSt xs xs.length oe ne → right xs = (decide (cnt 3 xs ≤ 2147483648) && decide (cnt 4 xs ≤ 2147483648)) from fun oe ne h => by
    obtain ⟨h1, h2, h3⟩ := h
    rw [List.take_length] at h1 h2 h3
    rw [right_eq, sideB, sideB, h1, h2, h3, cnt_le, cnt_le]; simp)
  by_cases hne : xs = []
  · subst hne
    obtain ⟨ao, cap, rfl⟩ := hr.shape
    clear hr hf
    go_enter Try.func6, Try.ntmps6
    go_wp2_with fail
    refine wp_loop_rounds 1 ?_
    rw [rounds_succ]
    go_wp2_with fail
    refine (polds_any _ [] w HR.out hl).mono ?_
    rw [show cnt 3 [] = 0 from rfl]
    rintro e w2 ⟨rfl, hb2⟩
    have HB2 := hidden hb2
    clear hb2
    go_wp2_with fail
    refine (pnews_any _ [] w2 (HR.out.later HB2.out) hl).mono ?_
    rw [show cnt 4 [] = 0 from rfl]
    rintro e w3 ⟨rfl, hb3⟩
    have HB3 := hidden (HB2.out.trans (hb3.mono HB2.out.size))
    clear hb3
    go_wp2_with fail
    go_ret
    exact ⟨ret_bool rfl, HB3.out⟩
  · obtain ⟨b, o, cap, rfl, hcap, hb, hc⟩ := hr.cells hne
    have HC := hidden hc
    clear hr hf hc hne
    go_enter Try.func6, Try.ntmps6
    go_wp2_with fail
    go_loopw [3, 4, 5] (fun a c i wr => ∃ (k : Nat) (oe ne : Bool), k ≤ xs.length ∧ a = .bool oe ∧ c = .bool ne ∧ i = .int .i64 k ∧ Hid (RSt xs k oe ne) ∧ Hid (Below w.heap.size w wr)) (fun _ _ i _ => xs.length - (intOf i).toNat)
    case atStart => exact ⟨0, false, false, Nat.zero_le _, rfl, rfl, rfl, ⟨rfl, rfl, rfl⟩, Below.refl _ _⟩
    case round =>
      obtain ⟨k, oe, ne, hk, rfl, rfl, rfl, hst, hbl⟩ := hrel
      by_cases hlt : k < xs.length
      · obtain ⟨x1, x2, x3, hx⟩ := op_some hlt
        obtain ⟨c1, c2, c3⟩ := three_later hb hbl.out (HC.out k _ hx)
        simp only at c1 c2 c3
        have HX := hidden hx
        have HF3 := hidden (show x3.length ≤ 140737488355328 from HF.out _ (List.mem_of_getElem? hx))
        clear hx
        by_cases h1 : x1 = 1
        · subst h1
          have HW := hidden (show ∀ W, freshW 1 x2 x3 W = (W.alloc (opO 1 x2 x3)).alloc (opO 1 x2 x3) from fun W => by simp [freshW])
          by_cases hp : 1 ≤ x2
          · have H3 := hidden (show ln 3 (1, x2, x3) = x2 by simp only [ln, if_true]; omega)
            have H4 := hidden (show ln 4 (1, x2, x3) = x2 by simp only [ln, if_true]; omega)
            have hp2 : decide (x2 > 0) = true := by simp; omega
            have hp3 : decide (0 < x2) = true := by simp; omega
            have hp4 : (0 : Int) < x2 := by omega
            have hp5 : decide (x2 < 1) = false := by simp; omega
            cases oe with
            | true =>
              have HN := hidden (show right xs = false from broken3 HX.out hst.out.2.1 (by simp [on]))
              go_wp2_with (first | (go_at_call 12; refine (old_any _ x2 x3 _).mono ?_; rw [H3.out]; rintro e w' ⟨rfl, rfl⟩) | (go_at_call 13; refine (fresh_any _ x2 x3 _).mono ?_; rw [H4.out, HW.out]; rintro e w' ⟨rfl, rfl⟩))
              go_ret
              exact ⟨ret_bool HN.out.symm, hidden (by repeat (first | exact hbl.out | apply bel_alloc))⟩
            | false =>
              cases ne with
              | true =>
                have HN := hidden (show right xs = false from broken4 HX.out hst.out.2.2 (by simp [on]))
                go_wp2_with (first | (go_at_call 12; refine (old_any _ x2 x3 _).mono ?_; rw [H3.out]; rintro e w' ⟨rfl, rfl⟩) | (go_at_call 13; refine (fresh_any _ x2 x3 _).mono ?_; rw [H4.out, HW.out]; rintro e w' ⟨rfl, rfl⟩))
                go_ret
                exact ⟨ret_bool HN.out.symm, hidden (by repeat (first | exact hbl.out | apply bel_alloc))⟩
              | false =>
                by_cases hm : x2 ≤ 2147483648
                · have hm2 : decide (x2 > 2147483648) = false := by simp; omega
                  have hm3 : decide (2147483648 < x2) = false := by simp; omega
                  by_cases ht : x3 = []
                  · subst ht
                    have HS := hidden (show RSt xs (k + 1) false false from hst.out.step HX.out (by simp [alone, hp, hm]) (by simp [rs, on, opn]) (by simp [rs, on, opn]))
                    go_wp2_with (first | (go_at_call 12; refine (old_any _ x2 [] _).mono ?_; rw [H3.out]; rintro e w' ⟨rfl, rfl⟩) | (go_at_call 13; refine (fresh_any _ x2 [] _).mono ?_; rw [H4.out, HW.out]; rintro e w' ⟨rfl, rfl⟩))
                    go_roundw
                    case rel => exact ⟨k + 1, false, false, by omega, rfl, rfl, by go_num, HS.out, hidden (by repeat (first | exact hbl.out | apply bel_alloc))⟩
                    case measure => simp [intOf]; omega
                  · have ht2 : x3.isEmpty = false := by simpa using ht
                    have ht3 : (x3 == []) = false := by simpa using ht
                    have HN := hidden (show right xs = false from not_alone HX.out (by simp [alone, ht]))
                    go_wp2_with (first | (go_at_call 12; refine (old_any _ x2 x3 _).mono ?_; rw [H3.out]; rintro e w' ⟨rfl, rfl⟩) | (go_at_call 13; refine (fresh_any _ x2 x3 _).mono ?_; rw [H4.out, HW.out]; rintro e w' ⟨rfl, rfl⟩))
                    go_ret
                    exact ⟨ret_bool HN.out.symm, hidden (by repeat (first | exact hbl.out | apply bel_alloc))⟩
                · have hm2 : decide (x2 > 2147483648) = true := by simp; omega
                  have hm3 : decide (2147483648 < x2) = true := by simp; omega
                  have hm4 : 2147483648 < x2 := by omega
                  have HN := hidden (show right xs = false from not_alone HX.out (by simp [alone, hm]))
                  go_wp2_with (first | (go_at_call 12; refine (old_any _ x2 x3 _).mono ?_; rw [H3.out]; rintro e w' ⟨rfl, rfl⟩) | (go_at_call 13; refine (fresh_any _ x2 x3 _).mono ?_; rw [H4.out, HW.out]; rintro e w' ⟨rfl, rfl⟩))
                  go_ret
                  exact ⟨ret_bool HN.out.symm, hidden (by repeat (first | exact hbl.out | apply bel_alloc))⟩
          · have H3 := hidden (show ln 3 (1, x2, x3) = 0 by simp only [ln, if_true]; omega)
            have H4 := hidden (show ln 4 (1, x2, x3) = 0 by simp only [ln, if_true]; omega)
            have hp2 : decide (x2 < 1) = true := by simp; omega
            have hp3 : x2 < 1 := by omega
            have HN := hidden (show right xs = false from not_alone HX.out (by simp [alone, hp]))
            go_wp2_with (first | (go_at_call 12; refine (old_any _ x2 x3 _).mono ?_; rw [H3.out]; rintro e w' ⟨rfl, rfl⟩) | (go_at_call 13; refine (fresh_any _ x2 x3 _).mono ?_; rw [H4.out, HW.out]; rintro e w' ⟨rfl, rfl⟩))
            go_ret
            exact ⟨ret_bool HN.out.symm, hidden (by repeat (first | exact hbl.out | apply bel_alloc))⟩
        · have h1b : (x1 == 1) = false := by simpa using h1
          by_cases h2 : x1 = 2
          · subst h2
            clear h1 h1b
            have H3 := hidden (show ln 3 (2, x2, x3) = 1 by simp [ln])
            have H4 := hidden (show ln 4 (2, x2, x3) = 1 by simp [ln])
            have HW := hidden (show ∀ W, freshW 2 x2 x3 W = (W.alloc (opO 2 x2 x3)).alloc (opO 2 x2 x3) from fun W => by simp [freshW])
            cases oe with
            | true =>
              have HN := hidden (show right xs = false from broken3 HX.out hst.out.2.1 (by simp [on]))
              go_wp2_with (first | (go_at_call 12; refine (old_any _ x2 x3 _).mono ?_; rw [H3.out]; rintro e w' ⟨rfl, rfl⟩) | (go_at_call 13; refine (fresh_any _ x2 x3 _).mono ?_; rw [H4.out, HW.out]; rintro e w' ⟨rfl, rfl⟩))
              go_ret
              exact ⟨ret_bool HN.out.symm, hidden (by repeat (first | exact hbl.out | apply bel_alloc))⟩
            | false =>
              cases ne with
              | true =>
                have HN := hidden (show right xs = false from broken4 HX.out hst.out.2.2 (by simp [on]))
                go_wp2_with (first | (go_at_call 12; refine (old_any _ x2 x3 _).mono ?_; rw [H3.out]; rintro e w' ⟨rfl, rfl⟩) | (go_at_call 13; refine (fresh_any _ x2 x3 _).mono ?_; rw [H4.out, HW.out]; rintro e w' ⟨rfl, rfl⟩))
                go_ret
                exact ⟨ret_bool HN.out.symm, hidden (by repeat (first | exact hbl.out | apply bel_alloc))⟩
              | false =>
                by_cases h0 : x2 = 0
                · subst h0
                  cases hrt : rt x3 with
                  | false =>
                    have HRT := hidden hrt
                    clear hrt
                    have HN := hidden (show right xs = false from not_alone HX.out (by simp [alone, HRT.out]))
                    go_wp2_with (first | (go_at_call 12; refine (old_any _ 0 x3 _).mono ?_; rw [H3.out]; rintro e w' ⟨rfl, rfl⟩) | (go_at_call 13; refine (fresh_any _ 0 x3 _).mono ?_; rw [H4.out, HW.out]; rintro e w' ⟨rfl, rfl⟩) | (go_at_call 14; refine (rightLineX x3 _ HF3.out).mono ?_; rw [HRT.out]; rintro e w' ⟨rfl, rfl⟩))
                    go_ret
                    exact ⟨ret_bool HN.out.symm, hidden (by repeat (first | exact hbl.out | apply bel_alloc))⟩
                  | true =>
                    have HRT := hidden hrt
                    clear hrt
                    cases hcl : cl x3 with
                    | true =>
                      have HCL := hidden hcl
                      clear hcl
                      have HS := hidden (show RSt xs (k + 1) false false from hst.out.step HX.out (by simp [alone, HRT.out]) (by simp [rs, on, opn, HCL.out]) (by simp [rs, on, opn, HCL.out]))
                      go_wp2_with (first | (go_at_call 12; refine (old_any _ 0 x3 _).mono ?_; rw [H3.out]; rintro e w' ⟨rfl, rfl⟩) | (go_at_call 13; refine (fresh_any _ 0 x3 _).mono ?_; rw [H4.out, HW.out]; rintro e w' ⟨rfl, rfl⟩) | (go_at_call 14; refine (rightLineX x3 _ HF3.out).mono ?_; rw [HRT.out]; rintro e w' ⟨rfl, rfl⟩) | (go_at_call 15; refine (openX x3 _ HF3.out).mono ?_; rw [HCL.out]; rintro e w' ⟨rfl, rfl⟩))
                      go_roundw
                      case rel => exact ⟨k + 1, false, false, by omega, rfl, rfl, by go_num, HS.out, hidden (by repeat (first | exact hbl.out | apply bel_alloc))⟩
                      case measure => simp [intOf]; omega
                    | false =>
                      have HCL := hidden hcl
                      clear hcl
                      have HS := hidden (show RSt xs (k + 1) true true from hst.out.step HX.out (by simp [alone, HRT.out]) (by simp [rs, on, opn, HCL.out]) (by simp [rs, on, opn, HCL.out]))
                      go_wp2_with (first | (go_at_call 12; refine (old_any _ 0 x3 _).mono ?_; rw [H3.out]; rintro e w' ⟨rfl, rfl⟩) | (go_at_call 13; refine (fresh_any _ 0 x3 _).mono ?_; rw [H4.out, HW.out]; rintro e w' ⟨rfl, rfl⟩) | (go_at_call 14; refine (rightLineX x3 _ HF3.out).mono ?_; rw [HRT.out]; rintro e w' ⟨rfl, rfl⟩) | (go_at_call 15; refine (openX x3 _ HF3.out).mono ?_; rw [HCL.out]; rintro e w' ⟨rfl, rfl⟩))
                      go_roundw
                      case rel => exact ⟨k + 1, true, true, by omega, rfl, rfl, by go_num, HS.out, hidden (by repeat (first | exact hbl.out | apply bel_alloc))⟩
                      case measure => simp [intOf]; omega
                · have h0b : (x2 == 0) = false := by simpa using h0
                  have h0c : (x2 != 0) = true := by simpa using h0
                  have HN := hidden (show right xs = false from not_alone HX.out (by simp [alone, h0]))
                  go_wp2_with (first | (go_at_call 12; refine (old_any _ x2 x3 _).mono ?_; rw [H3.out]; rintro e w' ⟨rfl, rfl⟩) | (go_at_call 13; refine (fresh_any _ x2 x3 _).mono ?_; rw [H4.out, HW.out]; rintro e w' ⟨rfl, rfl⟩))
                  go_ret
                  exact ⟨ret_bool HN.out.symm, hidden (by repeat (first | exact hbl.out | apply bel_alloc))⟩
          · have h2b : (x1 == 2) = false := by simpa using h2
            by_cases h3 : x1 = 3
            · subst h3
              clear h1 h1b h2 h2b
              have H3 := hidden (show ln 3 (3, x2, x3) = 1 by simp [ln])
              have H4 := hidden (show ln 4 (3, x2, x3) = 0 by simp [ln])
              have HW := hidden (show ∀ W, freshW 3 x2 x3 W = W.alloc (opO 3 x2 x3) from fun W => by simp [freshW])
              cases oe with
              | true =>
                have HN := hidden (show right xs = false from broken3 HX.out hst.out.2.1 (by simp [on]))
                go_wp2_with (first | (go_at_call 12; refine (old_any _ x2 x3 _).mono ?_; rw [H3.out]; rintro e w' ⟨rfl, rfl⟩) | (go_at_call 13; refine (fresh_any _ x2 x3 _).mono ?_; rw [H4.out, HW.out]; rintro e w' ⟨rfl, rfl⟩))
                go_ret
                exact ⟨ret_bool HN.out.symm, hidden (by repeat (first | exact hbl.out | apply bel_alloc))⟩
              | false =>
                cases ne with
                | true =>
                  by_cases h0 : x2 = 0
                  · subst h0
                    cases hrt : rt x3 with
                    | false =>
                      have HRT := hidden hrt
                      clear hrt
                      have HN := hidden (show right xs = false from not_alone HX.out (by simp [alone, HRT.out]))
                      go_wp2_with (first | (go_at_call 12; refine (old_any _ 0 x3 _).mono ?_; rw [H3.out]; rintro e w' ⟨rfl, rfl⟩) | (go_at_call 13; refine (fresh_any _ 0 x3 _).mono ?_; rw [H4.out, HW.out]; rintro e w' ⟨rfl, rfl⟩) | (go_at_call 14; refine (rightLineX x3 _ HF3.out).mono ?_; rw [HRT.out]; rintro e w' ⟨rfl, rfl⟩))
                      go_ret
                      exact ⟨ret_bool HN.out.symm, hidden (by repeat (first | exact hbl.out | apply bel_alloc))⟩
                    | true =>
                      have HRT := hidden hrt
                      clear hrt
                      cases hcl : cl x3 with
                      | true =>
                        have HCL := hidden hcl
                        clear hcl
                        have HS := hidden (show RSt xs (k + 1) false true from hst.out.step HX.out (by simp [alone, HRT.out]) (by simp [rs, on, opn, HCL.out]) (by simp [rs, on]))
                        go_wp2_with (first | (go_at_call 12; refine (old_any _ 0 x3 _).mono ?_; rw [H3.out]; rintro e w' ⟨rfl, rfl⟩) | (go_at_call 13; refine (fresh_any _ 0 x3 _).mono ?_; rw [H4.out, HW.out]; rintro e w' ⟨rfl, rfl⟩) | (go_at_call 14; refine (rightLineX x3 _ HF3.out).mono ?_; rw [HRT.out]; rintro e w' ⟨rfl, rfl⟩) | (go_at_call 15; refine (openX x3 _ HF3.out).mono ?_; rw [HCL.out]; rintro e w' ⟨rfl, rfl⟩))
                        go_roundw
                        case rel => exact ⟨k + 1, false, true, by omega, rfl, rfl, by go_num, HS.out, hidden (by repeat (first | exact hbl.out | apply bel_alloc))⟩
                        case measure => simp [intOf]; omega
                      | false =>
                        have HCL := hidden hcl
                        clear hcl
                        have HS := hidden (show RSt xs (k + 1) true true from hst.out.step HX.out (by simp [alone, HRT.out]) (by simp [rs, on, opn, HCL.out]) (by simp [rs, on]))
                        go_wp2_with (first | (go_at_call 12; refine (old_any _ 0 x3 _).mono ?_; rw [H3.out]; rintro e w' ⟨rfl, rfl⟩) | (go_at_call 13; refine (fresh_any _ 0 x3 _).mono ?_; rw [H4.out, HW.out]; rintro e w' ⟨rfl, rfl⟩) | (go_at_call 14; refine (rightLineX x3 _ HF3.out).mono ?_; rw [HRT.out]; rintro e w' ⟨rfl, rfl⟩) | (go_at_call 15; refine (openX x3 _ HF3.out).mono ?_; rw [HCL.out]; rintro e w' ⟨rfl, rfl⟩))
                        go_roundw
                        case rel => exact ⟨k + 1, true, true, by omega, rfl, rfl, by go_num, HS.out, hidden (by repeat (first | exact hbl.out | apply bel_alloc))⟩
                        case measure => simp [intOf]; omega
                  · have h0b : (x2 == 0) = false := by simpa using h0
                    have h0c : (x2 != 0) = true := by simpa using h0
                    have HN := hidden (show right xs = false from not_alone HX.out (by simp [alone, h0]))
                    go_wp2_with (first | (go_at_call 12; refine (old_any _ x2 x3 _).mono ?_; rw [H3.out]; rintro e w' ⟨rfl, rfl⟩) | (go_at_call 13; refine (fresh_any _ x2 x3 _).mono ?_; rw [H4.out, HW.out]; rintro e w' ⟨rfl, rfl⟩))
                    go_ret
                    exact ⟨ret_bool HN.out.symm, hidden (by repeat (first | exact hbl.out | apply bel_alloc))⟩
                | false =>
                  by_cases h0 : x2 = 0
                  · subst h0
                    cases hrt : rt x3 with
                    | false =>
                      have HRT := hidden hrt
                      clear hrt
                      have HN := hidden (show right xs = false from not_alone HX.out (by simp [alone, HRT.out]))
                      go_wp2_with (first | (go_at_call 12; refine (old_any _ 0 x3 _).mono ?_; rw [H3.out]; rintro e w' ⟨rfl, rfl⟩) | (go_at_call 13; refine (fresh_any _ 0 x3 _).mono ?_; rw [H4.out, HW.out]; rintro e w' ⟨rfl, rfl⟩) | (go_at_call 14; refine (rightLineX x3 _ HF3.out).mono ?_; rw [HRT.out]; rintro e w' ⟨rfl, rfl⟩))
                      go_ret
                      exact ⟨ret_bool HN.out.symm, hidden (by repeat (first | exact hbl.out | apply bel_alloc))⟩
                    | true =>
                      have HRT := hidden hrt
                      clear hrt
                      cases hcl : cl x3 with
                      | true =>
                        have HCL := hidden hcl
                        clear hcl
                        have HS := hidden (show RSt xs (k + 1) false false from hst.out.step HX.out (by simp [alone, HRT.out]) (by simp [rs, on, opn, HCL.out]) (by simp [rs, on]))
                        go_wp2_with (first | (go_at_call 12; refine (old_any _ 0 x3 _).mono ?_; rw [H3.out]; rintro e w' ⟨rfl, rfl⟩) | (go_at_call 13; refine (fresh_any _ 0 x3 _).mono ?_; rw [H4.out, HW.out]; rintro e w' ⟨rfl, rfl⟩) | (go_at_call 14; refine (rightLineX x3 _ HF3.out).mono ?_; rw [HRT.out]; rintro e w' ⟨rfl, rfl⟩) | (go_at_call 15; refine (openX x3 _ HF3.out).mono ?_; rw [HCL.out]; rintro e w' ⟨rfl, rfl⟩))
                        go_roundw
                        case rel => exact ⟨k + 1, false, false, by omega, rfl, rfl, by go_num, HS.out, hidden (by repeat (first | exact hbl.out | apply bel_alloc))⟩
                        case measure => simp [intOf]; omega
                      | false =>
                        have HCL := hidden hcl
                        clear hcl
                        have HS := hidden (show RSt xs (k + 1) true false from hst.out.step HX.out (by simp [alone, HRT.out]) (by simp [rs, on, opn, HCL.out]) (by simp [rs, on]))
                        go_wp2_with (first | (go_at_call 12; refine (old_any _ 0 x3 _).mono ?_; rw [H3.out]; rintro e w' ⟨rfl, rfl⟩) | (go_at_call 13; refine (fresh_any _ 0 x3 _).mono ?_; rw [H4.out, HW.out]; rintro e w' ⟨rfl, rfl⟩) | (go_at_call 14; refine (rightLineX x3 _ HF3.out).mono ?_; rw [HRT.out]; rintro e w' ⟨rfl, rfl⟩) | (go_at_call 15; refine (openX x3 _ HF3.out).mono ?_; rw [HCL.out]; rintro e w' ⟨rfl, rfl⟩))
                        go_roundw
                        case rel => exact ⟨k + 1, true, false, by omega, rfl, rfl, by go_num, HS.out, hidden (by repeat (first | exact hbl.out | apply bel_alloc))⟩
                        case measure => simp [intOf]; omega
                  · have h0b : (x2 == 0) = false := by simpa using h0
                    have h0c : (x2 != 0) = true := by simpa using h0
                    have HN := hidden (show right xs = false from not_alone HX.out (by simp [alone, h0]))
                    go_wp2_with (first | (go_at_call 12; refine (old_any _ x2 x3 _).mono ?_; rw [H3.out]; rintro e w' ⟨rfl, rfl⟩) | (go_at_call 13; refine (fresh_any _ x2 x3 _).mono ?_; rw [H4.out, HW.out]; rintro e w' ⟨rfl, rfl⟩))
                    go_ret
                    exact ⟨ret_bool HN.out.symm, hidden (by repeat (first | exact hbl.out | apply bel_alloc))⟩
            · have h3b : (x1 == 3) = false := by simpa using h3
              by_cases h4 : x1 = 4
              · subst h4
                clear h1 h1b h2 h2b h3 h3b
                have H3 := hidden (show ln 3 (4, x2, x3) = 0 by simp [ln])
                have H4 := hidden (show ln 4 (4, x2, x3) = 1 by simp [ln])
                have HW := hidden (show ∀ W, freshW 4 x2 x3 W = W.alloc (opO 4 x2 x3) from fun W => by simp [freshW])
                cases oe with
                | true =>
                  cases ne with
                  | true =>
                    have HN := hidden (show right xs = false from broken4 HX.out hst.out.2.2 (by simp [on]))
                    go_wp2_with (first | (go_at_call 12; refine (old_any _ x2 x3 _).mono ?_; rw [H3.out]; rintro e w' ⟨rfl, rfl⟩) | (go_at_call 13; refine (fresh_any _ x2 x3 _).mono ?_; rw [H4.out, HW.out]; rintro e w' ⟨rfl, rfl⟩))
                    go_ret
                    exact ⟨ret_bool HN.out.symm, hidden (by repeat (first | exact hbl.out | apply bel_alloc))⟩
                  | false =>
                    by_cases h0 : x2 = 0
                    · subst h0
                      cases hrt : rt x3 with
                      | false =>
                        have HRT := hidden hrt
                        clear hrt
                        have HN := hidden (show right xs = false from not_alone HX.out (by simp [alone, HRT.out]))
                        go_wp2_with (first | (go_at_call 12; refine (old_any _ 0 x3 _).mono ?_; rw [H3.out]; rintro e w' ⟨rfl, rfl⟩) | (go_at_call 13; refine (fresh_any _ 0 x3 _).mono ?_; rw [H4.out, HW.out]; rintro e w' ⟨rfl, rfl⟩) | (go_at_call 14; refine (rightLineX x3 _ HF3.out).mono ?_; rw [HRT.out]; rintro e w' ⟨rfl, rfl⟩))
                        go_ret
                        exact ⟨ret_bool HN.out.symm, hidden (by repeat (first | exact hbl.out | apply bel_alloc))⟩
                      | true =>
                        have HRT := hidden hrt
                        clear hrt
                        cases hcl : cl x3 with
                        | true =>
                          have HCL := hidden hcl
                          clear hcl
                          have HS := hidden (show RSt xs (k + 1) true false from hst.out.step HX.out (by simp [alone, HRT.out]) (by simp [rs, on]) (by simp [rs, on, opn, HCL.out]))
                          go_wp2_with (first | (go_at_call 12; refine (old_any _ 0 x3 _).mono ?_; rw [H3.out]; rintro e w' ⟨rfl, rfl⟩) | (go_at_call 13; refine (fresh_any _ 0 x3 _).mono ?_; rw [H4.out, HW.out]; rintro e w' ⟨rfl, rfl⟩) | (go_at_call 14; refine (rightLineX x3 _ HF3.out).mono ?_; rw [HRT.out]; rintro e w' ⟨rfl, rfl⟩) | (go_at_call 15; refine (openX x3 _ HF3.out).mono ?_; rw [HCL.out]; rintro e w' ⟨rfl, rfl⟩))
                          go_roundw
                          case rel => exact ⟨k + 1, true, false, by omega, rfl, rfl, by go_num, HS.out, hidden (by repeat (first | exact hbl.out | apply bel_alloc))⟩
                          case measure => simp [intOf]; omega
                        | false =>
                          have HCL := hidden hcl
                          clear hcl
                          have HS := hidden (show RSt xs (k + 1) true true from hst.out.step HX.out (by simp [alone, HRT.out]) (by simp [rs, on]) (by simp [rs, on, opn, HCL.out]))
                          go_wp2_with (first | (go_at_call 12; refine (old_any _ 0 x3 _).mono ?_; rw [H3.out]; rintro e w' ⟨rfl, rfl⟩) | (go_at_call 13; refine (fresh_any _ 0 x3 _).mono ?_; rw [H4.out, HW.out]; rintro e w' ⟨rfl, rfl⟩) | (go_at_call 14; refine (rightLineX x3 _ HF3.out).mono ?_; rw [HRT.out]; rintro e w' ⟨rfl, rfl⟩) | (go_at_call 15; refine (openX x3 _ HF3.out).mono ?_; rw [HCL.out]; rintro e w' ⟨rfl, rfl⟩))
                          go_roundw
                          case rel => exact ⟨k + 1, true, true, by omega, rfl, rfl, by go_num, HS.out, hidden (by repeat (first | exact hbl.out | apply bel_alloc))⟩
                          case measure => simp [intOf]; omega
                    · have h0b : (x2 == 0) = false := by simpa using h0
                      have h0c : (x2 != 0) = true := by simpa using h0
                      have HN := hidden (show right xs = false from not_alone HX.out (by simp [alone, h0]))
                      go_wp2_with (first | (go_at_call 12; refine (old_any _ x2 x3 _).mono ?_; rw [H3.out]; rintro e w' ⟨rfl, rfl⟩) | (go_at_call 13; refine (fresh_any _ x2 x3 _).mono ?_; rw [H4.out, HW.out]; rintro e w' ⟨rfl, rfl⟩))
                      go_ret
                      exact ⟨ret_bool HN.out.symm, hidden (by repeat (first | exact hbl.out | apply bel_alloc))⟩
                | false =>
                  cases ne with
                  | true =>
                    have HN := hidden (show right xs = false from broken4 HX.out hst.out.2.2 (by simp [on]))
                    go_wp2_with (first | (go_at_call 12; refine (old_any _ x2 x3 _).mono ?_; rw [H3.out]; rintro e w' ⟨rfl, rfl⟩) | (go_at_call 13; refine (fresh_any _ x2 x3 _).mono ?_; rw [H4.out, HW.out]; rintro e w' ⟨rfl, rfl⟩))
                    go_ret
                    exact ⟨ret_bool HN.out.symm, hidden (by repeat (first | exact hbl.out | apply bel_alloc))⟩
                  | false =>
                    by_cases h0 : x2 = 0
                    · subst h0
                      cases hrt : rt x3 with
                      | false =>
                        have HRT := hidden hrt
                        clear hrt
                        have HN := hidden (show right xs = false from not_alone HX.out (by simp [alone, HRT.out]))
                        go_wp2_with (first | (go_at_call 12; refine (old_any _ 0 x3 _).mono ?_; rw [H3.out]; rintro e w' ⟨rfl, rfl⟩) | (go_at_call 13; refine (fresh_any _ 0 x3 _).mono ?_; rw [H4.out, HW.out]; rintro e w' ⟨rfl, rfl⟩) | (go_at_call 14; refine (rightLineX x3 _ HF3.out).mono ?_; rw [HRT.out]; rintro e w' ⟨rfl, rfl⟩))
                        go_ret
                        exact ⟨ret_bool HN.out.symm, hidden (by repeat (first | exact hbl.out | apply bel_alloc))⟩
                      | true =>
                        have HRT := hidden hrt
                        clear hrt
                        cases hcl : cl x3 with
                        | true =>
                          have HCL := hidden hcl
                          clear hcl
                          have HS := hidden (show RSt xs (k + 1) false false from hst.out.step HX.out (by simp [alone, HRT.out]) (by simp [rs, on]) (by simp [rs, on, opn, HCL.out]))
                          go_wp2_with (first | (go_at_call 12; refine (old_any _ 0 x3 _).mono ?_; rw [H3.out]; rintro e w' ⟨rfl, rfl⟩) | (go_at_call 13; refine (fresh_any _ 0 x3 _).mono ?_; rw [H4.out, HW.out]; rintro e w' ⟨rfl, rfl⟩) | (go_at_call 14; refine (rightLineX x3 _ HF3.out).mono ?_; rw [HRT.out]; rintro e w' ⟨rfl, rfl⟩) | (go_at_call 15; refine (openX x3 _ HF3.out).mono ?_; rw [HCL.out]; rintro e w' ⟨rfl, rfl⟩))
                          go_roundw
                          case rel => exact ⟨k + 1, false, false, by omega, rfl, rfl, by go_num, HS.out, hidden (by repeat (first | exact hbl.out | apply bel_alloc))⟩
                          case measure => simp [intOf]; omega
                        | false =>
                          have HCL := hidden hcl
                          clear hcl
                          have HS := hidden (show RSt xs (k + 1) false true from hst.out.step HX.out (by simp [alone, HRT.out]) (by simp [rs, on]) (by simp [rs, on, opn, HCL.out]))
                          go_wp2_with (first | (go_at_call 12; refine (old_any _ 0 x3 _).mono ?_; rw [H3.out]; rintro e w' ⟨rfl, rfl⟩) | (go_at_call 13; refine (fresh_any _ 0 x3 _).mono ?_; rw [H4.out, HW.out]; rintro e w' ⟨rfl, rfl⟩) | (go_at_call 14; refine (rightLineX x3 _ HF3.out).mono ?_; rw [HRT.out]; rintro e w' ⟨rfl, rfl⟩) | (go_at_call 15; refine (openX x3 _ HF3.out).mono ?_; rw [HCL.out]; rintro e w' ⟨rfl, rfl⟩))
                          go_roundw
                          case rel => exact ⟨k + 1, false, true, by omega, rfl, rfl, by go_num, HS.out, hidden (by repeat (first | exact hbl.out | apply bel_alloc))⟩
                          case measure => simp [intOf]; omega
                    · have h0b : (x2 == 0) = false := by simpa using h0
                      have h0c : (x2 != 0) = true := by simpa using h0
                      have HN := hidden (show right xs = false from not_alone HX.out (by simp [alone, h0]))
                      go_wp2_with (first | (go_at_call 12; refine (old_any _ x2 x3 _).mono ?_; rw [H3.out]; rintro e w' ⟨rfl, rfl⟩) | (go_at_call 13; refine (fresh_any _ x2 x3 _).mono ?_; rw [H4.out, HW.out]; rintro e w' ⟨rfl, rfl⟩))
                      go_ret
                      exact ⟨ret_bool HN.out.symm, hidden (by repeat (first | exact hbl.out | apply bel_alloc))⟩
              · have h4b : (x1 == 4) = false := by simpa using h4
                have H3 := hidden (show ln 3 (x1, x2, x3) = 0 by simp [ln, h1, h2, h3])
                have H4 := hidden (show ln 4 (x1, x2, x3) = 0 by simp [ln, h1, h2, h4])
                have HW := hidden (show ∀ W, freshW x1 x2 x3 W = (W.alloc (opO x1 x2 x3)).alloc (opO x1 x2 x3) from fun W => by simp [freshW, h3, h4])
                have HN := hidden (show right xs = false from not_alone HX.out (by simp [alone, h1, h2, h3, h4]))
                go_wp2_with (first | (go_at_call 12; refine (old_any _ x2 x3 _).mono ?_; rw [H3.out]; rintro e w' ⟨rfl, rfl⟩) | (go_at_call 13; refine (fresh_any _ x2 x3 _).mono ?_; rw [H4.out, HW.out]; rintro e w' ⟨rfl, rfl⟩))
                go_ret
                exact ⟨ret_bool HN.out.symm, hidden (by repeat (first | exact hbl.out | apply bel_alloc))⟩
      · have HE := hidden (HEND.out oe ne (by have := hst.out; rw [show k = xs.length by omega] at this; exact this))
        go_wp2_with fail
        refine (polds_any _ xs wr (HR.out.later hbl.out) hl).mono ?_
        rintro e w2 ⟨rfl, hb2⟩
        have HB2 := hidden (hbl.out.trans (hb2.mono hbl.out.size))
        clear hb2
        generalize cnt 3 xs = c3 at HE ⊢
        by_cases h3 : c3 ≤ 2147483648
        · go_wp2_with fail
          refine (pnews_any _ xs w2 (HR.out.later HB2.out) hl).mono ?_
          rintro e w3 ⟨rfl, hb3⟩
          have HB3 := hidden (HB2.out.trans (hb3.mono HB2.out.size))
          clear hb3
          have H3 := hidden (decide_eq_true h3)
          go_wp2_with fail
          go_ret
          exact ⟨ret_bool (by rw [HE.out, H3.out]; rfl), HB3.out⟩
        · have h3b : decide (c3 ≤ 2147483648) = false := by simpa using h3
          have H3 := hidden h3b
          go_wp2_with fail
          go_ret
          exact ⟨ret_bool (by rw [HE.out, H3.out]; rfl), HB2.out⟩

end Go.Proofs.Ytcdjemheokmglab
