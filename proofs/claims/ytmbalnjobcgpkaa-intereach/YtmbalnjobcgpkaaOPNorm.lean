
/-
  What the document's own norm and Norm answer at any steps that lie in memory; conditions: the list's and the texts' lengths, and for norm that each step is right but for how large its number is, and that the old side is not too long.
-/
import Derived.Test.YtmbalnjobcgpkaaONorm
import Derived.Test.YtmbalnjobcgpkaaOPRight
namespace Go.Proofs.Ytmbalnjobcgpkaa
open Go.RowKit Go.Proofs.Ytmbalnjobcgpkaa.Ln Go.Proofs.Ytmbalnjobcgpkaa.Ol

/-- the second row is given up -/
theorem NK.none {w : World} {A C : List Oq} {av cv : Value} {W : World} (h : NK w A C av cv W) : NK w A [] av (.slice none 0 0) W :=
  ⟨h.bel, h.ao, ⟨rfl, Or.inl ⟨rfl, rfl⟩⟩, fun k e e2 => by cases e2⟩

theorem last_nums (m : Nat) (h : m < 4398046511104) : wrap64 ((m : Int) + 1 - 1) = m ∧ (m : Int) < (m : Int) + 1 ∧ (0 : Int) ≤ m ∧ wrap64 (m : Int) = m ∧ (0 : Int) < (m : Int) + 1 ∧ IntKind.i64.wrap ((m : Int) + 1 - 1) = m ∧ IntKind.i64.wrap (m : Int) = m := by
  rw [IntKind.wrap_i64, IntKind.wrap_i64]; unfold wrap64; omega

set_option maxRecDepth 3000 in
set_option maxHeartbeats 16000000 in
theorem pnorm_any (v : Value) (xs : List Oq) (w : World) (hr : OpsAt w v xs) (hl : xs.length ≤ 4398046511104) (hal : ∀ y ∈ xs, al0 y) (ht : tot 3 xs ≤ 549755813888) :
    Calls Try.prog 35 #[v] w fun e w' => ∃ v', e = .returned v' ∧ OpsAt w' v' (nrm xs) ∧ Below w.heap.size w w' := by
  have HFI := hidden (fun (k : Nat) (x : Oq) => fits_at (k := k) (x := x) hal ht)
  have HNUM := hidden last_nums
  have HCEL := hidden (show ∀ (wr : World) (k : Nat) (x : Oq), Below w.heap.size w wr → xs[k]? = some x → ∃ b o cap, v = .slice (some ⟨b, o, none⟩) xs.length cap ∧ wr.cell? ⟨b, o + k * 3, none⟩ = some (.int .i64 x.1) ∧ wr.cell? ⟨b, o + k * 3 + 1, none⟩ = some (.int .i64 x.2.1) ∧ wr.cell? ⟨b, o + k * 3 + 2, none⟩ = some (.string ⟨x.2.2.toArray⟩) from fun wr k x hb hx => by
    have hne : xs ≠ [] := fun e => by rw [e] at hx; simp at hx
    obtain ⟨b, o, cap, hv, hcap, hlt, hc⟩ := hr.cells hne
    obtain ⟨c1, c2, c3⟩ := three_later hlt hb (hc k x hx)
    exact ⟨b, o, cap, hv, c1, c2, c3⟩)
  obtain ⟨ao, cap, rfl⟩ := hr.shape
  clear hr hal ht
  go_enter Try.func35, Try.ntmps35
  go_wp2_with fail
  go_loopw [3, 4, 5] (fun a c i wr => ∃ k : Nat, k ≤ xs.length ∧ i = .int .i64 k ∧ Hid (NK w (nfo (xs.take k)).1 (nfo (xs.take k)).2 a c wr)) (fun _ _ i _ => xs.length + 1 - (intOf i).toNat)
  case atStart => exact ⟨0, Nat.zero_le _, rfl, ⟨Below.refl _ _, ⟨rfl, Or.inl ⟨rfl, rfl⟩⟩, ⟨rfl, Or.inl ⟨rfl, rfl⟩⟩, fun k e => by cases e⟩⟩
  case round =>
    obtain ⟨k, hk, rfl, hNK⟩ := hrel
    have HLN := hidden (show (nfo (xs.take k)).1.length + (nfo (xs.take k)).2.length ≤ k by
      have := nfo_len (xs.take k); rw [List.length_take] at this; omega)
    have hk2 := HLN.out
    have hws := hNK.out.bel.size
    have hki : (k : Int) ≤ xs.length := by omega
    by_cases hlt : k < xs.length
    · obtain ⟨x1, x2, x3, hx⟩ := op_some hlt
      obtain ⟨b, o, cap', hv, c1, c2, c3⟩ := HCEL.out wr k _ hNK.out.bel hx
      cases hv
      simp only at c1 c2 c3
      have HX := hidden hx
      have HNX := hidden (nfo_take hx)
      have HFT := hidden (HFI.out k _ hx)
      have hlti : (k : Int) < xs.length := by omega
      have hltn : ¬ (k : Int) = xs.length := by omega
      have hltb : ((k : Int) == (xs.length : Int)) = false := by simpa using hltn
      clear hx
      by_cases h4 : x1 = 4
      · subst h4
        have HN4 := hidden (show nfo (xs.take (k + 1)) = ((nfo (xs.take k)).1, (nfo (xs.take k)).2 ++ [(4, x2, x3)]) by rw [HNX.out]; simp [nst])
        go_wp2_with (at_builtin; go_must (refine wpList_append_ops _ (by go_simp) (.tmp 24) (.tmp 29) rfl w.heap.size _ (.slice (some ⟨wr.heap.size, 0, none⟩) 1 1) (nfo (xs.take k)).2 [(4, x2, x3)] rfl rfl (hNK.out.co.alloc _) (ops_oneAt _ _ _ _ _ (by simp)) (by simp; omega) (by simp; omega) ?_; intro v9 w9 hown9 hadd9))
        have HNK := hidden ((hNK.out.later ((Below.refl _ wr).alloc (Nat.le_refl _) (opO 4 x2 x3))).second hadd9 hown9)
        clear hown9 hadd9
        go_roundw
        case rel => exact ⟨k + 1, by omega, by go_num, by rw [HN4.out]; exact HNK.out⟩
        case measure => simp [intOf]; omega
      · have h4b : (x1 == 4) = false := by simpa using h4
        by_cases h3 : x1 = 3
        · subst h3
          have HN3 := hidden (show nfo (xs.take (k + 1)) = ((nfo (xs.take k)).1 ++ [(3, x2, x3)], (nfo (xs.take k)).2) by rw [HNX.out]; simp [nst])
          clear h4 h4b
          go_wp2_with (at_builtin; go_must (refine wpList_append_ops _ (by go_simp) (.tmp 90) (.tmp 95) rfl w.heap.size _ (.slice (some ⟨wr.heap.size, 0, none⟩) 1 1) (nfo (xs.take k)).1 [(3, x2, x3)] rfl rfl (hNK.out.ao.alloc _) (ops_oneAt _ _ _ _ _ (by simp)) (by simp; omega) (by simp; omega) ?_; intro v9 w9 hown9 hadd9))
          have HNK := hidden ((hNK.out.later ((Below.refl _ wr).alloc (Nat.le_refl _) (opO 3 x2 x3))).first hadd9 hown9)
          clear hown9 hadd9
          go_roundw
          case rel => exact ⟨k + 1, by omega, by go_num, by rw [HN3.out]; exact HNK.out⟩
          case measure => simp [intOf]; omega
        · have h3b : (x1 == 3) = false := by simpa using h3
          have h3c : (x1 != 3) = true := by simpa using h3
          have HN5 := hidden (show nfo (xs.take (k + 1)) = (stay ((nfo (xs.take k)).1 ++ (nfo (xs.take k)).2) (x1, x2, x3), []) by rw [HNX.out]; simp [nst, h3, h4])
          go_upto_region 11 with (at_builtin; go_must (refine wpList_append_ops _ (by go_simp) (.tmp 43) (.tmp 44) rfl w.heap.size _ _ (nfo (xs.take k)).1 (nfo (xs.take k)).2 rfl rfl hNK.out.ao (OpsAt.of_owns hNK.out.co) (by omega) (by omega) ?_; intro v9 w9 hown9 hadd9))
          have HNK := hidden ((hNK.out.first hadd9 hown9).none)
          clear hown9 hadd9 hNK c1 c2 c3
          obtain ⟨b', o', cap2, hv, c1, c2, c3⟩ := HCEL.out w9 k _ HNK.out.bel HX.out
          cases hv
          simp only at c1 c2 c3
          have hws9 := HNK.out.bel.size
          have hl9 : ((nfo (xs.take k)).1 ++ (nfo (xs.take k)).2).length ≤ k := by rw [List.length_append]; omega
          clear HLN hk2
          generalize (nfo (xs.take k)).1 ++ (nfo (xs.take k)).2 = A at *
          clear HNX
          by_cases h1 : x1 = 1
          · subst h1
            clear h3 h3b h3c h4 h4b
            rcases List.eq_nil_or_concat A with rfl | ⟨o0, y, hA⟩
            · obtain ⟨aq, cq, rfl⟩ : ∃ aq cq, v9 = .slice aq 0 cq := by
                rcases owns_form HNK.out.ao with ⟨rfl, _⟩ | ⟨g, cp, rfl, _⟩
                · exact ⟨none, 0, rfl⟩
                · exact ⟨_, cp, rfl⟩
              have HS := hidden (show stay [] (1, x2, x3) = [] ++ [(1, x2, x3)] from stay_app (by simp))
              have HAP := hidden (show NK w [] [] (.slice aq 0 cq) (.slice none 0 0) (w9.alloc (opO 1 x2 x3)) from HNK.out.later ((Below.refl _ w9).alloc (Nat.le_refl _) _))
              have hla : (([] : List Oq)).length ≤ k := by first | exact hl9 | (simp; omega) | simp
              go_wp2_with (at_builtin; go_must (refine wpList_append_ops _ (by go_simp) (.tmp 90) (.tmp 95) rfl w.heap.size (.slice aq 0 cq) (.slice (some ⟨w9.heap.size, 0, none⟩) 1 1) [] [(1, x2, x3)] rfl rfl HAP.out.ao (ops_oneAt _ _ _ _ _ (by simp)) (by simp only [List.length_cons, List.length_nil]; omega) (by simp; omega) ?_; intro v10 w10 hown10 hadd10))
              have HK10 := hidden (HAP.out.first hadd10 hown10)
              clear hown10 hadd10
              go_roundw
              case rel => exact ⟨k + 1, by omega, by go_num, by rw [HN5.out, HS.out]; exact HK10.out⟩
              case measure => simp [intOf]; omega
            · rw [List.concat_eq_append] at hA
              subst hA
              rcases owns_form HNK.out.ao with ⟨_, e⟩ | ⟨g, cp, hv9, hcp, hgB, hgl⟩
              · simp at e
              · obtain ⟨y1, y2, y3⟩ := y
                have hlen : (o0 ++ [(y1, y2, y3)]).length = o0.length + 1 := by simp
                rw [hlen] at hv9 hcp hl9
                subst hv9
                have HAO := hidden HNK.out.ao
                rw [hlen] at HAO
                clear hlen
                obtain ⟨q1, q2, q3⟩ := owns_op HAO.out (show (o0 ++ [(y1, y2, y3)])[o0.length]? = some (y1, y2, y3) by simp)
                simp only at q1 q2 q3
                have qf := owns_thaw HAO.out (o0.length * 3 + 1)
                obtain ⟨hn1, hn2, hn3, hn4, hn5, hn6, hn7⟩ := HNUM.out o0.length (Nat.lt_of_lt_of_le (Nat.lt_succ_self _) (Nat.le_trans hl9 (Nat.le_trans hk hl)))
                by_cases h2 : y1 = 1
                · subst h2
                  obtain ⟨f1, f2, f3⟩ := HFT.out rfl (1, y2, y3) (by simp) rfl
                  simp only at f1 f2 f3
                  have HS := hidden (stay_in o0 (y := (1, y2, y3)) (x := (1, x2, x3)) rfl rfl)
                  have HPL := hidden (show min (y2 + min x2 1099511627776) 1099511627776 = y2 + x2 by omega)
                  have f4 : y2 ≤ 1099511627776 := by omega
                  go_upto_region 12 with fail
                  go_region_with (go_at_call 45; refine (plus_any y2 x2 _ f1 f4 f2).mono ?_; rw [HPL.out]; rintro e w' ⟨rfl, rfl⟩)
                  all_goals
                    have HK10 := hidden (show NK w (stay (o0 ++ [(1, y2, y3)]) (1, x2, x3)) [] (.slice (some ⟨g, 0, none⟩) (o0.length + 1) cp) (.slice none 0 0) (w9.setCell ⟨g, o0.length * 3 + 1, none⟩ (.int .i64 (y2 + x2))) by
                      refine (show NK w (o0 ++ [(1, y2, y3)]) [] (.slice (some ⟨g, 0, none⟩) (o0.length + 1) cp) (.slice none 0 0) w9 from HNK.out).first ⟨grown_set w9 g _ _, Or.inl rfl⟩ ?_
                      rw [HS.out, List.length_append]
                      exact owns_set (y2 + x2) HAO.out)
                    go_wp2_with fail
                    go_roundw
                    case rel => exact ⟨k + 1, by omega, by go_num, by rw [HN5.out]; exact HK10.out.later (Below.refl _ _).drew⟩
                    case measure => simp [intOf]; omega
                · have h2b : (y1 == 1) = false := by simpa using h2
                  have HS := hidden (show stay (o0 ++ [(y1, y2, y3)]) (1, x2, x3) = (o0 ++ [(y1, y2, y3)]) ++ [(1, x2, x3)] from stay_app (fun z hz => by simp at hz; subst hz; exact fun e => h2 e.2))
                  have HAP := hidden (show NK w (o0 ++ [(y1, y2, y3)]) [] (.slice (some ⟨g, 0, none⟩) (o0.length + 1) cp) (.slice none 0 0) (w9.alloc (opO 1 x2 x3)) from HNK.out.later ((Below.refl _ w9).alloc (Nat.le_refl _) _))
                  have hla : (((o0 ++ [(y1, y2, y3)]) : List Oq)).length ≤ k := by first | exact hl9 | (simp; omega) | simp
                  go_wp2_with (at_builtin; go_must (refine wpList_append_ops _ (by go_simp) (.tmp 90) (.tmp 95) rfl w.heap.size (.slice (some ⟨g, 0, none⟩) (o0.length + 1) cp) (.slice (some ⟨w9.heap.size, 0, none⟩) 1 1) (o0 ++ [(y1, y2, y3)]) [(1, x2, x3)] rfl rfl HAP.out.ao (ops_oneAt _ _ _ _ _ (by simp)) (by simp only [List.length_cons, List.length_nil]; omega) (by simp; omega) ?_; intro v10 w10 hown10 hadd10))
                  have HK10 := hidden (HAP.out.first hadd10 hown10)
                  clear hown10 hadd10
                  go_roundw
                  case rel => exact ⟨k + 1, by omega, by go_num, by rw [HN5.out, HS.out]; exact HK10.out⟩
                  case measure => simp [intOf]; omega
          · have h1b : (x1 == 1) = false := by simpa using h1
            have HS := hidden (show stay A (x1, x2, x3) = A ++ [(x1, x2, x3)] from stay_app (fun z hz e => h1 e.1))
            have HAP := hidden (show NK w A [] v9 (.slice none 0 0) (w9.alloc (opO x1 x2 x3)) from HNK.out.later ((Below.refl _ w9).alloc (Nat.le_refl _) _))
            have hla : ((A : List Oq)).length ≤ k := by first | exact hl9 | (simp; omega) | simp
            go_wp2_with (at_builtin; go_must (refine wpList_append_ops _ (by go_simp) (.tmp 90) (.tmp 95) rfl w.heap.size v9 (.slice (some ⟨w9.heap.size, 0, none⟩) 1 1) A [(x1, x2, x3)] rfl rfl HAP.out.ao (ops_oneAt _ _ _ _ _ (by simp)) (by simp only [List.length_cons, List.length_nil]; omega) (by simp; omega) ?_; intro v10 w10 hown10 hadd10))
            have HK10 := hidden (HAP.out.first hadd10 hown10)
            clear hown10 hadd10
            go_roundw
            case rel => exact ⟨k + 1, by omega, by go_num, by rw [HN5.out, HS.out]; exact HK10.out⟩
            case measure => simp [intOf]; omega
    · have hke : xs.take k = xs := List.take_of_length_le (by omega)
      rw [hke] at hNK hk2
      have hkx : k = xs.length := by omega
      subst hkx
      go_wp2_with (at_builtin; go_must (refine wpList_append_ops _ (by go_simp) (.tmp 43) (.tmp 44) rfl w.heap.size _ _ (nfo xs).1 (nfo xs).2 rfl rfl hNK.out.ao (OpsAt.of_owns hNK.out.co) (by omega) hws ?_; intro v9 w9 hown9 hadd9))
      go_ret
      exact ⟨_, rfl, OpsAt.of_owns hown9, (hNK.out.first hadd9 hown9).bel⟩

end Go.Proofs.Ytmbalnjobcgpkaa
