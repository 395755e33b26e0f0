
/-
  The law TidyIdle answers true at whatever steps, and leaves what lay in memory as it was.
-/
import Derived.Test.YtbbbphlojefgjaaTLaw
import Derived.Test.YtbbbphlojefgjaaWWit
namespace Go.Proofs.Ytbbbphlojefgjaa
open Go.RowKit Go.Proofs.Ytbbbphlojefgjaa.Ln Go.Proofs.Ytbbbphlojefgjaa.Ol

theorem wtn_len (l : List Oq) : (wtn l).length ≤ 5000 := by
  unfold wtn
  split
  · rename_i h
    have := (wso_len qn l (right_al0 h.1)).1
    unfold wit; omega
  · simp
theorem wso_fitT (l : List Oq) : Fit l → (wso qn l).1.length ≤ 5000 → FitT (wso qn l).1 := by
  refine snoc_ind (P := fun l => Fit l → (wso qn l).1.length ≤ 5000 → FitT (wso qn l).1) (fun _ _ x hx => by cases hx) ?_ l
  intro l x ih hf hl
  rw [wso_snoc] at hl ⊢
  unfold wst at hl ⊢
  by_cases e1 : x.1 = 1
  · rw [if_pos e1] at hl ⊢
    simp only at hl ⊢
    rw [List.length_append, fillW_len] at hl
    intro t ht
    rcases List.mem_append.1 ht with h | h
    · exact ih (fun y hy => hf y (by simp [hy])) (by omega) t h
    · obtain ⟨j, hj, rfl⟩ := List.mem_map.1 h
      have hj := List.mem_range.1 hj
      have := qn_len ((wso qn l).1.length + j)
      omega
  · rw [if_neg e1] at hl ⊢
    simp only at hl ⊢
    by_cases e4 : x.1 = 4
    · rw [if_pos e4] at hl ⊢
      exact ih (fun y hy => hf y (by simp [hy])) hl
    · rw [if_neg e4] at hl ⊢
      rw [List.length_append] at hl
      intro t ht
      rcases List.mem_append.1 ht with h | h
      · exact ih (fun y hy => hf y (by simp [hy])) (by omega) t h
      · rw [List.mem_singleton] at h; rw [h]; exact hf x (by simp)
theorem wtn_fit {l : List Oq} (h : Fit l) : FitT (wtn l) := by
  have hl := wtn_len l
  unfold wtn wit at *
  split
  · rename_i hr
    rw [if_pos hr] at hl
    exact wso_fitT l h hl
  · intro x hx; cases hx

/-- the frame, as far as it matters -/
structure FrI (a : Act) (s0 s4 s5 : Value) : Prop where
  size : a.tmps.size = 66
  e0 : a.tmps.getD 0 undef = s0
  e4 : a.tmps.getD 4 undef = s4
  e5 : a.tmps.getD 5 undef = s5
  marks : a.defers = []
theorem FrI_slots (tmps : Array Value) (h : tmps.size = 66) : tmps = #[tmps.getD 0 undef, tmps.getD 1 undef, tmps.getD 2 undef, tmps.getD 3 undef, tmps.getD 4 undef, tmps.getD 5 undef, tmps.getD 6 undef, tmps.getD 7 undef, tmps.getD 8 undef, tmps.getD 9 undef, tmps.getD 10 undef, tmps.getD 11 undef, tmps.getD 12 undef, tmps.getD 13 undef, tmps.getD 14 undef, tmps.getD 15 undef, tmps.getD 16 undef, tmps.getD 17 undef, tmps.getD 18 undef, tmps.getD 19 undef, tmps.getD 20 undef, tmps.getD 21 undef, tmps.getD 22 undef, tmps.getD 23 undef, tmps.getD 24 undef, tmps.getD 25 undef, tmps.getD 26 undef, tmps.getD 27 undef, tmps.getD 28 undef, tmps.getD 29 undef, tmps.getD 30 undef, tmps.getD 31 undef, tmps.getD 32 undef, tmps.getD 33 undef, tmps.getD 34 undef, tmps.getD 35 undef, tmps.getD 36 undef, tmps.getD 37 undef, tmps.getD 38 undef, tmps.getD 39 undef, tmps.getD 40 undef, tmps.getD 41 undef, tmps.getD 42 undef, tmps.getD 43 undef, tmps.getD 44 undef, tmps.getD 45 undef, tmps.getD 46 undef, tmps.getD 47 undef, tmps.getD 48 undef, tmps.getD 49 undef, tmps.getD 50 undef, tmps.getD 51 undef, tmps.getD 52 undef, tmps.getD 53 undef, tmps.getD 54 undef, tmps.getD 55 undef, tmps.getD 56 undef, tmps.getD 57 undef, tmps.getD 58 undef, tmps.getD 59 undef, tmps.getD 60 undef, tmps.getD 61 undef, tmps.getD 62 undef, tmps.getD 63 undef, tmps.getD 64 undef, tmps.getD 65 undef] := by
  have h1 : tmps.toList = (List.range 66).map (fun i => tmps.getD i undef) := by
    apply List.ext_getElem
    · simp [h]
    · intro i h2 h3
      simp at h2
      simp [h2]
  calc tmps = ⟨tmps.toList⟩ := rfl
    _ = ⟨(List.range 66).map (fun i => tmps.getD i undef)⟩ := by rw [h1]
    _ = _ := rfl
theorem FrI.frame {a : Act} {s0 s4 s5 : Value} (h : FrI a s0 s4 s5) : ∃ f : Nat → Value, (∀ i, a.tmps.getD i undef = f i) ∧ a = { tmps := #[s0, f 1, f 2, f 3, s4, s5, f 6, f 7, f 8, f 9, f 10, f 11, f 12, f 13, f 14, f 15, f 16, f 17, f 18, f 19, f 20, f 21, f 22, f 23, f 24, f 25, f 26, f 27, f 28, f 29, f 30, f 31, f 32, f 33, f 34, f 35, f 36, f 37, f 38, f 39, f 40, f 41, f 42, f 43, f 44, f 45, f 46, f 47, f 48, f 49, f 50, f 51, f 52, f 53, f 54, f 55, f 56, f 57, f 58, f 59, f 60, f 61, f 62, f 63, f 64, f 65], defers := [] } := by
  refine ⟨fun i => a.tmps.getD i undef, fun _ => rfl, ?_⟩
  obtain ⟨tmps, defers⟩ := a
  have h1 := FrI_slots tmps h.size
  rw [h.e0, h.e4, h.e5] at h1
  have h2 := h.marks
  simp only at h2
  rw [h2]
  exact congrArg (fun t => Act.mk t []) h1

set_option maxRecDepth 3000 in
set_option maxHeartbeats 8000000 in
theorem tidyIdle_any (vX : Value) (l : List Oq) (w : World) (hX : OpsAt w vX l) (hlX : l.length ≤ 4398046511104) (hfX : Fit l) :
    Calls Try.prog 5 #[vX] w fun e w' => e = .returned (.bool true) ∧ Below w.heap.size w w' := by
  have HX0 := hidden hX
  have HB0 := hidden (Below.refl w.heap.size w)
  have HFX := hidden hfX
  obtain ⟨aX, cX, rfl⟩ := hX.shape
  clear hX hfX
  go_enter Try.func5, Try.ntmps5
  go_wp2_with fail
  refine (alive13_any _).mono ?_
  rintro e w1 ⟨rfl, hb⟩
  have HX1 := hidden (HX0.out.later hb)
  have HB1 := hidden (HB0.out.trans (hb.mono HB0.out.size))
  clear hb
  have HLW := hidden (wtn_len l)
  have HFW := hidden (wtn_fit HFX.out)
  go_wp2_with fail
  refine (pwitness_any _ l w1 HX1.out hlX HFX.out).mono ?_
  rintro e w2 ⟨q0, rfl, ho, hb⟩
  have HX2 := hidden (HX1.out.later hb)
  have HB2 := hidden (HB1.out.trans (hb.mono HB1.out.size))
  clear hb
  clear HX1 HB1
  have HV2 := hidden ho
  clear ho
  obtain ⟨q0a, q0n, q0c, rfl⟩ : ∃ a n c, q0 = .slice a n c := by obtain ⟨a, c, e⟩ := HV2.out.shape; exact ⟨_, _, _, e⟩
  go_wp2_with fail
  refine (few_any _ l w2 HX2.out (by omega)).mono ?_
  rintro e w' ⟨⟨c, rfl⟩, hw⟩
  subst w'
  cases c with
  | false =>
    go_wp2_with fail
    go_ret
    exact ⟨rfl, HB2.out⟩
  | true =>
    cases hrt : right l with
    | false =>
      have HRT := hidden hrt
      clear hrt
      go_wp2_with fail
      refine (pright_any _ l w2 HX2.out (by omega) HFX.out).mono ?_
      rw [HRT.out]
      rintro e w3 ⟨rfl, hb⟩
      have HX3 := hidden (HX2.out.later hb)
      have HV3 := hidden (HV2.out.later hb)
      have HB3 := hidden (HB2.out.trans (hb.mono HB2.out.size))
      clear hb
      clear HX2 HV2 HB2
      go_wp2_with fail
      go_ret
      exact ⟨by first | rfl | simp, HB3.out⟩
    | true =>
      have HRT := hidden hrt
      clear hrt
      go_wp2_with fail
      refine (pright_any _ l w2 HX2.out (by omega) HFX.out).mono ?_
      rw [HRT.out]
      rintro e w3 ⟨rfl, hb⟩
      have HX3 := hidden (HX2.out.later hb)
      have HV3 := hidden (HV2.out.later hb)
      have HB3 := hidden (HB2.out.trans (hb.mono HB2.out.size))
      clear hb
      clear HX2 HV2 HB2
      obtain ⟨z, hz⟩ : ∃ z, tot 3 l = z := ⟨_, rfl⟩
      have hz0 : 0 ≤ z := hz ▸ tot_pos 3 l
      have hz1 : z ≤ 2147483648 := hz ▸ (right_parts HRT.out).2.2.2.1
      have HZ := hidden hz
      have HCN := hidden (show cnt 3 l = z by rw [← hz]; exact cnt_is 3 l (right_parts HRT.out).2.2.2.1)
      clear hz
      go_wp2_with fail
      refine (polds_any _ l w3 HX3.out (by omega)).mono ?_
      rw [HCN.out]
      rintro e w4 ⟨rfl, hb⟩
      have HX4 := hidden (HX3.out.later hb)
      have HV4 := hidden (HV3.out.later hb)
      have HB4 := hidden (HB3.out.trans (hb.mono HB3.out.size))
      clear hb
      clear HX3 HV3 HB3
      by_cases hz3 : z ≤ 300
      case neg =>
        have hd1 : decide (z > 300) = true := by simp; omega
        have hd2 : decide (300 < z) = true := by simp; omega
        go_wp2_with fail
        go_ret
        exact ⟨by first | rfl | simp, HB4.out⟩
      case pos =>
      have hd1 : decide (z > 300) = false := by simp; omega
      have hd2 : decide (300 < z) = false := by simp; omega
      have HWT := hidden (show wtn l = (wso qn l).1 by unfold wtn wit; rw [if_pos ⟨HRT.out, by rw [HZ.out]; omega⟩])
      have HDO := hidden (show doo l (wtn l) = some (wso qn l).2 by rw [HWT.out]; exact doo_wit qn_line HRT.out)
      obtain ⟨_, _, hsh, hcX⟩ := HX4.out.open_
      cases hsh
      have HCX := hidden hcX
      clear hcX
      go_wp2_with fail
      refine wp_loop_ghost_k (fun g a' wr => ∃ k : Nat, k ≤ l.length ∧ FrI a' (.slice aX l.length cX) (.slice q0a q0n q0c) (.int .i64 k) ∧ Hid (g = l.length - k ∧ (∀ (i : Nat) x, i < k → l[i]? = some x → x.2.2[0]? ≠ some 63) ∧ Below w4.heap.size w4 wr)) l.length ?start ?round
      case start => exact ⟨0, Nat.zero_le _, ⟨rfl, rfl, rfl, rfl, rfl⟩, ⟨by omega, fun i x h => absurd h (Nat.not_lt_zero _), Below.refl _ _⟩⟩
      case round =>
      intro gk _ wr hinv
      obtain ⟨k, hk, hfr, hgs⟩ := hinv
      obtain ⟨ff, hff, ha⟩ := hfr.frame
      clear hff hfr hd1 hd2
      subst ha
      try dsimp only
      intro _ _ _ _
      have HG := hidden hgs.out.1
      have HU := hidden hgs.out.2.1
      have HBL := hidden hgs.out.2.2
      clear hgs
      by_cases hlt : k < l.length
      case pos =>
        have HGX := hidden (show l.length - (k + 1) < gk by have := HG.out; omega)
        have HKX := hidden (show k + 1 ≤ l.length by omega)
        obtain ⟨x1, x2, x3, hx⟩ := op_some hlt
        obtain ⟨b, o, hao, hcap, hb, hcc⟩ := HCX.out k _ hx
        subst hao
        obtain ⟨d1, d2, d3⟩ := three_later hb HBL.out hcc
        simp only at d1 d2 d3
        have HXX := hidden hx
        have hl3 : x3.length ≤ 140737488355328 := HFX.out _ (List.mem_of_getElem? hx)
        clear hx hcc d1 d2
        cases x3 with
        | nil =>
          have HU2 := hidden (show ∀ (i : Nat) x, i < k + 1 → l[i]? = some x → x.2.2[0]? ≠ some 63 from fun i x hi hx => by
            by_cases e : i = k
            · subst e; rw [HXX.out] at hx; cases hx; simp
            · exact HU.out i x (by omega) hx)
          go_wp2_with fail
          refine Handed.intro (l.length - (k + 1)) HGX.out ?_
          go_step
          exact ⟨k + 1, HKX.out, ⟨rfl, rfl, rfl, rfl, rfl⟩, ⟨rfl, HU2.out, HBL.out⟩⟩
        | cons c r =>
          have hcb : ∀ h, (⟨(c :: r).toArray⟩ : ByteArray)[0]'h = c := fun _ => rfl
          by_cases hc : c = 63
          · subst hc
            have HB9 := hidden (HB4.out.trans (HBL.out.mono HB4.out.size))
            go_wp2_with fail
            go_ret
            exact ⟨rfl, HB9.out⟩
          · have HU2 := hidden (show ∀ (i : Nat) x, i < k + 1 → l[i]? = some x → x.2.2[0]? ≠ some 63 from fun i x hi hx => by
              by_cases e : i = k
              · subst e; rw [HXX.out] at hx; cases hx; simpa using hc
              · exact HU.out i x (by omega) hx)
            have hn : ¬ c.toNat = 63 := fun h => hc (UInt8.toNat_inj.1 h)
            have hnb : (c.toNat == 63) = false := by simpa using hn
            have hc256 : c.toNat < 256 := c.toNat_lt
            clear hc
            go_wp2_with fail
            refine Handed.intro (l.length - (k + 1)) HGX.out ?_
            go_step
            exact ⟨k + 1, HKX.out, ⟨rfl, rfl, rfl, rfl, rfl⟩, ⟨rfl, HU2.out, HBL.out⟩⟩
      case neg =>
      have HID := hidden (show (wso qn l).2 = wtn l ↔ chs (tdy l) = 0 by
        rw [HWT.out]
        refine idle_same HRT.out (fun x hx _ j e => ?_)
        obtain ⟨i, hi, rfl⟩ := List.mem_iff_getElem.1 hx
        refine HU.out i _ (by omega) (List.getElem?_eq_getElem hi) ?_
        rw [← e]; rfl)
      have hb := HBL.out
      obtain ⟨w5, hwr⟩ : ∃ W, W = wr := ⟨_, rfl⟩
      subst hwr
      clear HBL
      have HX5 := hidden (HX4.out.later hb)
      have HV5 := hidden (HV4.out.later hb)
      have HB5 := hidden (HB4.out.trans (hb.mono HB4.out.size))
      clear hb
      clear HX4 HV4 HB4
      have HLO := hidden (show l.length + (wtn l).length ≤ 4398046511104 by have := right_len HRT.out; have := HLW.out; omega)
      have HLN := hidden (show (wso qn l).2.length ≤ 4398046511104 by have := doo_len HDO.out; have := HLO.out; omega)
      have HLW2 := hidden (show (wtn l).length ≤ 4398046511104 by have := HLW.out; omega)
      go_wp2_with fail
      refine (pdo_any _ l _ (wtn l) w5 HX5.out HV5.out HLO.out HFX.out HFW.out).mono ?_
      rw [HDO.out]
      rintro e w6 ⟨q1, rfl, ho, hb⟩
      simp only [Option.getD_some, Option.isSome_some] at ho ⊢
      have HX6 := hidden (HX5.out.later hb)
      have HV6 := hidden (HV5.out.later hb)
      have HB6 := hidden (HB5.out.trans (hb.mono HB5.out.size))
      clear hb
      clear HX5 HV5 HB5
      have HN6 := hidden (RowAt.of_owns ho)
      clear ho
      obtain ⟨qa, qn1, qc, rfl⟩ : ∃ a n c, q1 = .slice a n c := by obtain ⟨a, c, e⟩ := HN6.out.shape; exact ⟨_, _, _, e⟩
      obtain ⟨bi, hbi⟩ : ∃ b, decide (chs (tdy l) = 0) = b := ⟨_, rfl⟩
      have HBI := hidden hbi
      have HBT := hidden (show decide ((wso qn l).2 = wtn l) = bi by rw [← hbi]; exact decide_eq_decide.2 HID.out)
      clear hbi
      have hbb : (bi == bi) = true := by simp
      go_wp2_with fail
      refine (sameTexts_any _ _ _ _ w6 HN6.out HV6.out HLN.out HLW2.out).mono ?_
      rw [HBT.out]
      rintro e w7 ⟨rfl, hb⟩
      have HX7 := hidden (HX6.out.later hb)
      have HV7 := hidden (HV6.out.later hb)
      have HN7 := hidden (HN6.out.later hb)
      have HB7 := hidden (HB6.out.trans (hb.mono HB6.out.size))
      clear hb
      clear HX6 HV6 HN6 HB6
      go_wp2_with fail
      refine (idle_any _ l w7 HX7.out (by omega) HFX.out).mono ?_
      rw [HBI.out]
      rintro e w8 ⟨rfl, hb⟩
      have HX8 := hidden (HX7.out.later hb)
      have HV8 := hidden (HV7.out.later hb)
      have HN8 := hidden (HN7.out.later hb)
      have HB8 := hidden (HB7.out.trans (hb.mono HB7.out.size))
      clear hb
      clear HX7 HV7 HN7 HB7
      go_wp2_with fail
      go_ret
      exact ⟨by first | rfl | simp, HB8.out⟩

end Go.Proofs.Ytbbbphlojefgjaa
