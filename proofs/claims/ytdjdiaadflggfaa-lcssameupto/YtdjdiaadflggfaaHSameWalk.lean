
/-
  The law LcsSame answers true at whatever lines of at most 1048576 lines and bytes, and leaves what lay in memory as it was.
-/
import Derived.Test.YtdjdiaadflggfaaBDiff
namespace Go.Proofs.Ytdjdiaadflggfaa
open Go.RowKit Go.Proofs.Ytdjdiaadflggfaa.Ln Go.Proofs.Ytdjdiaadflggfaa.Ol

open Go.Deep

theorem three_bel {W wA wB wC : World} {v8 v9 : Value} (h1 : Adds W wA (.slice none 0 0) v8) (hb : Below wA.heap.size wA wB) (h2 : Adds wB wC v8 v9) : Below W.heap.size W wC := by
  have h0 := adds_nil h1
  have h3 := h0.trans (hb.mono h0.size)
  refine h3.trans ⟨h2.1.os, h2.1.tape, h2.1.output, h2.1.size, fun k hk => h2.1.block k (Nat.lt_of_lt_of_le hk h3.size) (fun e => ?_)⟩
  rcases h1.2 with e2 | ⟨k2, e2, hk2⟩
  · rw [e2] at e; cases e
  · rw [e2] at e; cases e; omega

/-- the frame, as far as it matters -/
structure FrS (a : Act) (s0 s1 s6 s7 s8 s9 : Value) : Prop where
  size : a.tmps.size = 115
  e0 : a.tmps.getD 0 undef = s0
  e1 : a.tmps.getD 1 undef = s1
  e6 : a.tmps.getD 6 undef = s6
  e7 : a.tmps.getD 7 undef = s7
  e8 : a.tmps.getD 8 undef = s8
  e9 : a.tmps.getD 9 undef = s9
  marks : a.defers = []
theorem FrS_slots (tmps : Array Value) (h : tmps.size = 115) : tmps = #[tmps.getD 0 undef, tmps.getD 1 undef, tmps.getD 2 undef, tmps.getD 3 undef, tmps.getD 4 undef, tmps.getD 5 undef, tmps.getD 6 undef, tmps.getD 7 undef, tmps.getD 8 undef, tmps.getD 9 undef, tmps.getD 10 undef, tmps.getD 11 undef, tmps.getD 12 undef, tmps.getD 13 undef, tmps.getD 14 undef, tmps.getD 15 undef, tmps.getD 16 undef, tmps.getD 17 undef, tmps.getD 18 undef, tmps.getD 19 undef, tmps.getD 20 undef, tmps.getD 21 undef, tmps.getD 22 undef, tmps.getD 23 undef, tmps.getD 24 undef, tmps.getD 25 undef, tmps.getD 26 undef, tmps.getD 27 undef, tmps.getD 28 undef, tmps.getD 29 undef, tmps.getD 30 undef, tmps.getD 31 undef, tmps.getD 32 undef, tmps.getD 33 undef, tmps.getD 34 undef, tmps.getD 35 undef, tmps.getD 36 undef, tmps.getD 37 undef, tmps.getD 38 undef, tmps.getD 39 undef, tmps.getD 40 undef, tmps.getD 41 undef, tmps.getD 42 undef, tmps.getD 43 undef, tmps.getD 44 undef, tmps.getD 45 undef, tmps.getD 46 undef, tmps.getD 47 undef, tmps.getD 48 undef, tmps.getD 49 undef, tmps.getD 50 undef, tmps.getD 51 undef, tmps.getD 52 undef, tmps.getD 53 undef, tmps.getD 54 undef, tmps.getD 55 undef, tmps.getD 56 undef, tmps.getD 57 undef, tmps.getD 58 undef, tmps.getD 59 undef, tmps.getD 60 undef, tmps.getD 61 undef, tmps.getD 62 undef, tmps.getD 63 undef, tmps.getD 64 undef, tmps.getD 65 undef, tmps.getD 66 undef, tmps.getD 67 undef, tmps.getD 68 undef, tmps.getD 69 undef, tmps.getD 70 undef, tmps.getD 71 undef, tmps.getD 72 undef, tmps.getD 73 undef, tmps.getD 74 undef, tmps.getD 75 undef, tmps.getD 76 undef, tmps.getD 77 undef, tmps.getD 78 undef, tmps.getD 79 undef, tmps.getD 80 undef, tmps.getD 81 undef, tmps.getD 82 undef, tmps.getD 83 undef, tmps.getD 84 undef, tmps.getD 85 undef, tmps.getD 86 undef, tmps.getD 87 undef, tmps.getD 88 undef, tmps.getD 89 undef, tmps.getD 90 undef, tmps.getD 91 undef, tmps.getD 92 undef, tmps.getD 93 undef, tmps.getD 94 undef, tmps.getD 95 undef, tmps.getD 96 undef, tmps.getD 97 undef, tmps.getD 98 undef, tmps.getD 99 undef, tmps.getD 100 undef, tmps.getD 101 undef, tmps.getD 102 undef, tmps.getD 103 undef, tmps.getD 104 undef, tmps.getD 105 undef, tmps.getD 106 undef, tmps.getD 107 undef, tmps.getD 108 undef, tmps.getD 109 undef, tmps.getD 110 undef, tmps.getD 111 undef, tmps.getD 112 undef, tmps.getD 113 undef, tmps.getD 114 undef] := by
  have h1 : tmps.toList = (List.range 115).map (fun i => tmps.getD i undef) := by
    apply List.ext_getElem
    · simp [h]
    · intro i h2 h3
      simp at h2
      simp [h2]
  calc tmps = ⟨tmps.toList⟩ := rfl
    _ = ⟨(List.range 115).map (fun i => tmps.getD i undef)⟩ := by rw [h1]
    _ = _ := rfl
theorem FrS.frame {a : Act} {s0 s1 s6 s7 s8 s9 : Value} (h : FrS a s0 s1 s6 s7 s8 s9) : ∃ f : Nat → Value, (∀ i, a.tmps.getD i undef = f i) ∧ a = { tmps := #[s0, s1, f 2, f 3, f 4, f 5, s6, s7, s8, s9, f 10, f 11, f 12, f 13, f 14, f 15, f 16, f 17, f 18, f 19, f 20, f 21, f 22, f 23, f 24, f 25, f 26, f 27, f 28, f 29, f 30, f 31, f 32, f 33, f 34, f 35, f 36, f 37, f 38, f 39, f 40, f 41, f 42, f 43, f 44, f 45, f 46, f 47, f 48, f 49, f 50, f 51, f 52, f 53, f 54, f 55, f 56, f 57, f 58, f 59, f 60, f 61, f 62, f 63, f 64, f 65, f 66, f 67, f 68, f 69, f 70, f 71, f 72, f 73, f 74, f 75, f 76, f 77, f 78, f 79, f 80, f 81, f 82, f 83, f 84, f 85, f 86, f 87, f 88, f 89, f 90, f 91, f 92, f 93, f 94, f 95, f 96, f 97, f 98, f 99, f 100, f 101, f 102, f 103, f 104, f 105, f 106, f 107, f 108, f 109, f 110, f 111, f 112, f 113, f 114], defers := [] } := by
  refine ⟨fun i => a.tmps.getD i undef, fun _ => rfl, ?_⟩
  obtain ⟨tmps, defers⟩ := a
  have h1 := FrS_slots tmps h.size
  rw [h.e0, h.e1, h.e6, h.e7, h.e8, h.e9] at h1
  have h2 := h.marks
  simp only at h2
  rw [h2]
  exact congrArg (fun t => Act.mk t []) h1

set_option maxRecDepth 3000 in
set_option maxHeartbeats 8000000 in
theorem lcsSame_any (vX : Value) (a : List Tx) (vY : Value) (b : List Tx) (w : World) (hX : RowAt w vX a) (hlX : a.length ≤ 1048576) (hnX : a.flatten.length ≤ 1048576) (hY : RowAt w vY b) (hlY : b.length ≤ 1048576) (hnY : b.flatten.length ≤ 1048576) :
    Calls Try.prog 6 #[vX, vY] w fun e w' => e = .returned (.bool true) ∧ Below w.heap.size w w' := by
  have HX0 := hidden hX
  have HY0 := hidden hY
  have HB0 := hidden (Below.refl w.heap.size w)
  have HNX := hidden hnX
  have HFX := hidden (fitT_flat hnX)
  obtain ⟨aX, cX, rfl⟩ := hX.shape
  clear hX hnX
  have HNY := hidden hnY
  have HFY := hidden (fitT_flat hnY)
  obtain ⟨aY, cY, rfl⟩ := hY.shape
  clear hY hnY
  go_enter Try.func6, Try.ntmps6
  go_wp2_with fail
  refine (alive12_any _).mono ?_
  rintro e w1 ⟨rfl, hb⟩
  have HX1 := hidden (HX0.out.later hb)
  have HY1 := hidden (HY0.out.later hb)
  have HB1 := hidden (HB0.out.trans (hb.mono HB0.out.size))
  clear hb
  go_wp2_with fail
  refine (short_any _ a w1 HX1.out (by omega) (by have := HNX.out; omega)).mono ?_
  rintro e w2 ⟨⟨c, rfl⟩, hb⟩
  have HX2 := hidden (HX1.out.later hb)
  have HY2 := hidden (HY1.out.later hb)
  have HB2 := hidden (HB1.out.trans (hb.mono HB1.out.size))
  clear hb
  clear HX1 HY1 HB1
  cases c with
  | false =>
    go_wp2_with fail
    go_ret
    exact ⟨rfl, HB2.out⟩
  | true =>
    go_wp2_with fail
    refine (short_any _ b w2 HY2.out (by omega) (by have := HNY.out; omega)).mono ?_
    rintro e w3 ⟨⟨c, rfl⟩, hb⟩
    have HX3 := hidden (HX2.out.later hb)
    have HY3 := hidden (HY2.out.later hb)
    have HB3 := hidden (HB2.out.trans (hb.mono HB2.out.size))
    clear hb
    clear HX2 HY2 HB2
    cases c with
    | false =>
      go_wp2_with fail
      go_ret
      exact ⟨rfl, HB3.out⟩
    | true =>
      by_cases hsX : a.length ≤ 40
      case neg =>
        have hd1 : decide ((a.length : Int) > 40) = true := by simp; omega
        have hd2 : decide (40 < (a.length : Int)) = true := by simp; omega
        have hd3 : decide (40 < a.length) = true := by simp; omega
        clear hsX
        go_wp2_with fail
        go_ret
        exact ⟨by first | rfl | simp, HB3.out⟩
      case pos =>
      have hdX1 : decide ((a.length : Int) > 40) = false := by simp; omega
      have hdX2 : decide (40 < (a.length : Int)) = false := by simp; omega
      have hdX3 : decide (40 < a.length) = false := by simp; omega
      by_cases hsY : b.length ≤ 40
      case neg =>
        have hd1 : decide ((b.length : Int) > 40) = true := by simp; omega
        have hd2 : decide (40 < (b.length : Int)) = true := by simp; omega
        have hd3 : decide (40 < b.length) = true := by simp; omega
        clear hsY
        go_wp2_with fail
        go_ret
        exact ⟨by first | rfl | simp, HB3.out⟩
      case pos =>
      have hdY1 : decide ((b.length : Int) > 40) = false := by simp; omega
      have hdY2 : decide (40 < (b.length : Int)) = false := by simp; omega
      have hdY3 : decide (40 < b.length) = false := by simp; omega
      clear hdX1 hdX2 hdX3 hdY1 hdY2 hdY3
      have HT0 := hidden (fitT_of (xs := []) rfl)
      obtain ⟨n, hn⟩ : ∃ n, a.length = n := ⟨_, rfl⟩
      rw [hn] at hsX hlX HX3 ⊢
      have HN := hidden hn
      have HE1 := hidden (show df a a = a.map fun x => ((2, 0, x) : Oq) from df_self a)
      have HE2 := hidden (show df [] a = a.map fun x => ((4, 0, x) : Oq) from df_nil a)
      have HE3 := hidden (show df a [] = a.map fun x => ((3, 0, x) : Oq) from df_all a)
      clear hn
      go_wp2_with fail
      refine (lcsdiff_any _ _ a a w3 HX3.out HX3.out (by rw [HN.out]; omega) (by rw [HN.out]; omega) HFX.out HFX.out).mono ?_
      rw [HE1.out]
      rintro e w4 ⟨q1, rfl, ho, hb⟩
      have HX4 := hidden (HX3.out.later hb)
      have HY4 := hidden (HY3.out.later hb)
      have HB4 := hidden (HB3.out.trans (hb.mono HB3.out.size))
      clear hb
      clear HX3 HY3 HB3
      have HP4 := hidden ho
      clear ho
      obtain ⟨q1a, q1c, rfl⟩ : ∃ a c, q1 = .slice a n c := by obtain ⟨a, c, e⟩ := HP4.out.shape; exact ⟨_, _, by rw [e, List.length_map, HN.out]⟩
      go_wp2_with fail
      refine (lcsdiff_any _ _ [] a w4 (RowAt.nil _ _ _) HX4.out (by simp) (by rw [HN.out]; omega) HT0.out HFX.out).mono ?_
      rw [HE2.out]
      rintro e w5 ⟨q2, rfl, ho, hb⟩
      have HX5 := hidden (HX4.out.later hb)
      have HY5 := hidden (HY4.out.later hb)
      have HP5 := hidden (HP4.out.later hb)
      have HB5 := hidden (HB4.out.trans (hb.mono HB4.out.size))
      clear hb
      clear HX4 HY4 HP4 HB4
      have HQ5 := hidden ho
      clear ho
      obtain ⟨q2a, q2c, rfl⟩ : ∃ a c, q2 = .slice a n c := by obtain ⟨a, c, e⟩ := HQ5.out.shape; exact ⟨_, _, by rw [e, List.length_map, HN.out]⟩
      go_wp2_with fail
      refine (lcsdiff_any _ _ a [] w5 HX5.out (RowAt.nil _ _ _) (by rw [HN.out]; omega) (by simp) HFX.out HT0.out).mono ?_
      rw [HE3.out]
      rintro e w6 ⟨q3, rfl, ho, hb⟩
      have HX6 := hidden (HX5.out.later hb)
      have HY6 := hidden (HY5.out.later hb)
      have HP6 := hidden (HP5.out.later hb)
      have HQ6 := hidden (HQ5.out.later hb)
      have HB6 := hidden (HB5.out.trans (hb.mono HB5.out.size))
      clear hb
      clear HX5 HY5 HP5 HQ5 HB5
      have HR6 := hidden ho
      clear ho
      obtain ⟨q3a, q3c, rfl⟩ : ∃ a c, q3 = .slice a n c := by obtain ⟨a, c, e⟩ := HR6.out.shape; exact ⟨_, _, by rw [e, List.length_map, HN.out]⟩
      go_wp2_with fail
      refine wp_loop_ghost_k (fun g a' wr => ∃ k : Nat, k ≤ n ∧ FrS a' (.slice aX n cX) (.slice aY b.length cY) (.slice q1a n q1c) (.slice q2a n q2c) (.slice q3a n q3c) (.int .i64 k) ∧ Hid (g = n - k ∧ Below w6.heap.size w6 wr)) n ?start ?round
      case start => exact ⟨0, Nat.zero_le _, ⟨rfl, rfl, rfl, rfl, rfl, rfl, rfl, rfl⟩, ⟨by omega, Below.refl _ _⟩⟩
      case round =>
      intro gk _ wr hinv
      obtain ⟨k, hk, hfr, hgs⟩ := hinv
      obtain ⟨ff, hff, ha⟩ := hfr.frame
      clear hff hfr
      subst ha
      try dsimp only
      intro _ _ _ _
      have HG := hidden hgs.out.1
      have HBL := hidden hgs.out.2
      clear hgs
      by_cases hlt : k < n
      case pos =>
        obtain ⟨x, hx⟩ : ∃ x, a[k]? = some x := ⟨a[k]'(by rw [HN.out]; exact hlt), List.getElem?_eq_getElem _⟩
        have hm : ∀ kk : Int, (a.map fun x => ((kk, 0, x) : Oq))[k]? = some (kk, 0, x) := fun kk => by rw [List.getElem?_map, hx]; rfl
        have hlm : ∀ kk : Int, (a.map fun x => ((kk, 0, x) : Oq)).length = n := fun kk => by rw [List.length_map, HN.out]
        obtain ⟨_, _, hsh, hc⟩ := HX6.out.open_
        rw [HN.out] at hsh hc
        cases hsh
        obtain ⟨b1, o1, e1, hcp1, hb1, cx⟩ := hc k x hx
        obtain ⟨_, _, hsh, hc⟩ := HP6.out.open_
        rw [hlm] at hsh hc
        cases hsh
        obtain ⟨b2, o2, e2, hcp2, hb2, cy⟩ := hc k _ (hm 2)
        obtain ⟨_, _, hsh, hc⟩ := HQ6.out.open_
        rw [hlm] at hsh hc
        cases hsh
        obtain ⟨b3, o3, e3, hcp3, hb3, cz⟩ := hc k _ (hm 4)
        obtain ⟨_, _, hsh, hc⟩ := HR6.out.open_
        rw [hlm] at hsh hc
        cases hsh
        obtain ⟨b4, o4, e4, hcp4, hb4, cu⟩ := hc k _ (hm 3)
        subst e1 e2 e3 e4
        have cx2 := (HBL.out.cell (p := ⟨b1, o1 + k, none⟩) hb1).trans cx
        obtain ⟨p1, p2, p3⟩ := three_later hb2 HBL.out cy
        obtain ⟨r1, r2, r3⟩ := three_later hb3 HBL.out cz
        obtain ⟨s1, s2, s3⟩ := three_later hb4 HBL.out cu
        simp only at p1 p2 p3 r1 r2 r3 s1 s2 s3
        have hqq : (x == x) = true := by simp
        clear hx hm hlm hc cx cy cz cu
        go_wp2_with fail
        go_quiet (fail)
        go_wp2_with fail
        have hb9 := below_drewN HBL.out nq
        refine Handed.intro (n - (k + 1)) (by have := HG.out; omega) ?_
        go_step
        exact ⟨k + 1, by omega, ⟨rfl, rfl, rfl, rfl, rfl, rfl, rfl, rfl⟩, ⟨rfl, hb9⟩⟩
      case neg =>
      have hb := HBL.out
      obtain ⟨w7, hwr⟩ : ∃ W, W = wr := ⟨_, rfl⟩
      subst hwr
      have HX7 := hidden (HX6.out.later hb)
      have HY7 := hidden (HY6.out.later hb)
      have HP7 := hidden (HP6.out.later hb)
      have HQ7 := hidden (HQ6.out.later hb)
      have HR7 := hidden (HR6.out.later hb)
      have HB7 := hidden (HB6.out.trans (hb.mono HB6.out.size))
      clear hb
      clear HX6 HY6 HP6 HQ6 HR6 HB6
      obtain ⟨z, hz⟩ : ∃ z, lc a b = z := ⟨_, rfl⟩
      have HZ := hidden hz
      have hzn : z ≤ n := by rw [← hz, ← HN.out]; exact (lc_le a b).1
      clear hz HBL
      go_wp2_with fail
      refine (lcslen_any _ _ a b w7 HX7.out HY7.out (by rw [HN.out]; omega) (by omega) HFX.out HFY.out).mono ?_
      rw [HZ.out]
      rintro e w8 ⟨rfl, hb⟩
      have HX8 := hidden (HX7.out.later hb)
      have HY8 := hidden (HY7.out.later hb)
      have HP8 := hidden (HP7.out.later hb)
      have HQ8 := hidden (HQ7.out.later hb)
      have HR8 := hidden (HR7.out.later hb)
      have HB8 := hidden (HB7.out.trans (hb.mono HB7.out.size))
      clear hb
      clear HX7 HY7 HP7 HQ7 HR7 HB7
      by_cases hz0 : z = 0
      case neg =>
        have hd1 : decide ((z : Int) > 0) = true := by simp; omega
        have hd2 : decide (0 < z) = true := by simp; omega
        have hd4 : decide (0 < (z : Int)) = true := by simp; omega
        go_wp2_with fail
        go_ret
        exact ⟨by first | rfl | simp, HB8.out⟩
      case pos =>
      subst hz0
      have HDN := hidden (show df a b = (a.map fun x => ((3, 0, x) : Oq)) ++ df [] b by rw [df_none a b HZ.out, HE3.out])
      have HLD := hidden (show ((a.map fun x => ((3, 0, x) : Oq)) ++ df [] b).length ≤ 4398046511104 by
        rw [List.length_append, List.length_map, HN.out]
        have := df_len_le [] b
        simp only [List.length_nil] at this
        omega)
      have HLB := hidden (show (a.map fun x => ((3, 0, x) : Oq)).length + (df [] b).length ≤ 4398046511104 by
        rw [List.length_map, HN.out]
        have := df_len_le [] b
        simp only [List.length_nil] at this
        omega)
      go_wp2_with fail
      refine (lcsdiff_any _ _ a b w8 HX8.out HY8.out (by rw [HN.out]; omega) (by omega) HFX.out HFY.out).mono ?_
      rw [HDN.out]
      rintro e w9 ⟨q4, rfl, ho, hb⟩
      have HX9 := hidden (HX8.out.later hb)
      have HY9 := hidden (HY8.out.later hb)
      have HP9 := hidden (HP8.out.later hb)
      have HQ9 := hidden (HQ8.out.later hb)
      have HR9 := hidden (HR8.out.later hb)
      have HB9 := hidden (HB8.out.trans (hb.mono HB8.out.size))
      clear hb
      clear HX8 HY8 HP8 HQ8 HR8 HB8
      have HD9 := hidden ho
      clear ho
      obtain ⟨q4a, q4n, q4c, rfl⟩ : ∃ a n c, q4 = .slice a n c := by obtain ⟨a, c, e⟩ := HD9.out.shape; exact ⟨_, _, _, e⟩
      have hsz := HB9.out.size
      go_wp2_with (at_builtin; go_must (refine wpList_append_ops _ (by go_simp) _ _ rfl w.heap.size (.slice none 0 0) _ [] (a.map fun x => ((3, 0, x) : Oq)) rfl rfl ⟨rfl, Or.inl ⟨rfl, rfl⟩⟩ HR9.out (by rw [List.length_map, HN.out]; simp; omega) hsz ?_; intro v8 wA hown8 hadd8))
      rw [List.nil_append] at hown8
      have HO8 := hidden hown8
      have HA8 := hidden hadd8
      have HBA := hidden (adds_nil hadd8)
      have HYA := hidden (HY9.out.later HBA.out)
      have hszA := Nat.le_trans hsz HBA.out.size
      clear hown8 hadd8
      refine (lcsdiff_any _ _ [] b wA (RowAt.nil _ _ _) HYA.out (by simp) (by omega) HT0.out HFY.out).mono ?_
      rintro e wB ⟨q5, rfl, ho, hb⟩
      have HO9 := hidden (owns_later HO8.out hb)
      have HEB := hidden ho
      have HBB := hidden hb
      have hszB := Nat.le_trans hszA hb.size
      obtain ⟨q5a, q5n, q5c, rfl⟩ : ∃ a n c, q5 = .slice a n c := by obtain ⟨a, c, e⟩ := HEB.out.shape; exact ⟨_, _, _, e⟩
      clear ho hb
      go_wp2_with (at_builtin; go_must (refine wpList_append_ops _ (by go_simp) _ _ rfl w.heap.size v8 _ (a.map fun x => ((3, 0, x) : Oq)) (df [] b) rfl rfl HO9.out HEB.out HLB.out hszB ?_; intro v9 wC hown9 hadd9))
      have hb : Below w9.heap.size w9 wC := three_bel HA8.out HBB.out hadd9
      have HF9 := hidden (OpsAt.of_owns hown9)
      clear hown9 hadd9 hsz hszA hszB
      obtain ⟨w10, hwr⟩ : ∃ W, W = wC := ⟨_, rfl⟩
      subst hwr
      have HX10 := hidden (HX9.out.later hb)
      have HY10 := hidden (HY9.out.later hb)
      have HP10 := hidden (HP9.out.later hb)
      have HQ10 := hidden (HQ9.out.later hb)
      have HR10 := hidden (HR9.out.later hb)
      have HD10 := hidden (HD9.out.later hb)
      have HB10 := hidden (HB9.out.trans (hb.mono HB9.out.size))
      clear hb
      clear HX9 HY9 HP9 HQ9 HR9 HD9 HB9
      obtain ⟨q9a, q9n, q9c, rfl⟩ : ∃ a n c, v9 = .slice a n c := by obtain ⟨a, c, e⟩ := HF9.out.shape; exact ⟨_, _, _, e⟩
      refine (psame_any _ _ _ _ w10 HD10.out HF9.out HLD.out HLD.out).mono ?_
      rw [decide_eq_true (Eq.refl ((a.map fun x => ((3, 0, x) : Oq)) ++ df [] b))]
      rintro e w11 ⟨rfl, hb⟩
      have HX11 := hidden (HX10.out.later hb)
      have HY11 := hidden (HY10.out.later hb)
      have HP11 := hidden (HP10.out.later hb)
      have HQ11 := hidden (HQ10.out.later hb)
      have HR11 := hidden (HR10.out.later hb)
      have HD11 := hidden (HD10.out.later hb)
      have HB11 := hidden (HB10.out.trans (hb.mono HB10.out.size))
      clear hb
      clear HX10 HY10 HP10 HQ10 HR10 HD10 HB10
      go_wp2_with fail
      go_ret
      exact ⟨by first | rfl | simp, HB11.out⟩

end Go.Proofs.Ytdjdiaadflggfaa
