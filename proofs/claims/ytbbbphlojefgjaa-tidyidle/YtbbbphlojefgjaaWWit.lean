
/-
  What the document's own Witness answers at any steps that lie in memory; conditions: the list's and the texts' lengths.
-/
import Derived.Test.YtbbbphlojefgjaaWNum
import Derived.Test.YtbbbphlojefgjaaCPThen
import Derived.Test.YtbbbphlojefgjaaORef
namespace Go.Proofs.Ytbbbphlojefgjaa
open Go.RowKit Go.Proofs.Ytbbbphlojefgjaa.Ln Go.Proofs.Ytbbbphlojefgjaa.Ol

/-- the lines that the document tells -/
def wtn (xs : List Oq) : List Tx := if right xs = true ∧ tot 3 xs ≤ 5000 then wit qn xs else []
theorem wso_len_take {xs : List Oq} (h : ∀ x ∈ xs, al0 x) (k : Nat) : ((wso qn (xs.take k)).1.length : Int) ≤ tot 3 xs := by
  rw [(wso_len qn (xs.take k) (fun x hx => h x (List.mem_of_mem_take hx))).1]
  have e : tot 3 xs = tot 3 (xs.take k) + tot 3 (xs.drop k) := by rw [← tot_app, List.take_append_drop]
  have := tot_pos 3 (xs.drop k)
  omega
theorem wst_skip (q : Nat → Tx) (s : List Tx × List Tx) (n : Int) (t : Tx) : (wst q s (1, n, t)).1 = s.1 ++ fillW q s.1.length n.toNat := by unfold wst; rw [if_pos rfl]
theorem wst_line (q : Nat → Tx) (s : List Tx × List Tx) {k : Int} (n : Int) (t : Tx) (h : k = 2 ∨ k = 3) : (wst q s (k, n, t)).1 = s.1 ++ [t] := by
  unfold wst
  rcases h with rfl | rfl <;> simp
theorem wst_ins (q : Nat → Tx) (s : List Tx × List Tx) (n : Int) (t : Tx) : (wst q s (4, n, t)).1 = s.1 := by unfold wst; simp
/-- a row of texts of one's own -/
structure K1 (w : World) (O : List Tx) (vo : Value) (W : World) : Prop where
  bel : Below w.heap.size w W
  own : W.ownsRow w.heap.size 9 1 vo O.length (O.map S)
theorem K1.add {w W W' : World} {O : List Tx} {vo v' : Value} {x : Tx} (h : K1 w O vo W) (ho : W'.ownsRow w.heap.size 9 1 v' (O ++ [x]).length ((O ++ [x]).map S)) (ha : Adds (W.alloc (.cells #[.string ⟨x.toArray⟩] 9)) W' vo v') : K1 w (O ++ [x]) v' W' :=
  ⟨adds_bel (bel_alloc h.bel _) (by have := h.bel.size; simp; omega) (h.own.alloc _) ha, ho⟩

/-- the frame, as far as it matters -/
structure FrN (a : Act) (s0 s3 s4 s5 : Value) : Prop where
  size : a.tmps.size = 56
  e0 : a.tmps.getD 0 undef = s0
  e3 : a.tmps.getD 3 undef = s3
  e4 : a.tmps.getD 4 undef = s4
  e5 : a.tmps.getD 5 undef = s5
  marks : a.defers = []
theorem FrN_slots (tmps : Array Value) (h : tmps.size = 56) : tmps = #[tmps.getD 0 undef, tmps.getD 1 undef, tmps.getD 2 undef, tmps.getD 3 undef, tmps.getD 4 undef, tmps.getD 5 undef, tmps.getD 6 undef, tmps.getD 7 undef, tmps.getD 8 undef, tmps.getD 9 undef, tmps.getD 10 undef, tmps.getD 11 undef, tmps.getD 12 undef, tmps.getD 13 undef, tmps.getD 14 undef, tmps.getD 15 undef, tmps.getD 16 undef, tmps.getD 17 undef, tmps.getD 18 undef, tmps.getD 19 undef, tmps.getD 20 undef, tmps.getD 21 undef, tmps.getD 22 undef, tmps.getD 23 undef, tmps.getD 24 undef, tmps.getD 25 undef, tmps.getD 26 undef, tmps.getD 27 undef, tmps.getD 28 undef, tmps.getD 29 undef, tmps.getD 30 undef, tmps.getD 31 undef, tmps.getD 32 undef, tmps.getD 33 undef, tmps.getD 34 undef, tmps.getD 35 undef, tmps.getD 36 undef, tmps.getD 37 undef, tmps.getD 38 undef, tmps.getD 39 undef, tmps.getD 40 undef, tmps.getD 41 undef, tmps.getD 42 undef, tmps.getD 43 undef, tmps.getD 44 undef, tmps.getD 45 undef, tmps.getD 46 undef, tmps.getD 47 undef, tmps.getD 48 undef, tmps.getD 49 undef, tmps.getD 50 undef, tmps.getD 51 undef, tmps.getD 52 undef, tmps.getD 53 undef, tmps.getD 54 undef, tmps.getD 55 undef] := by
  have h1 : tmps.toList = (List.range 56).map (fun i => tmps.getD i undef) := by
    apply List.ext_getElem
    · simp [h]
    · intro i h2 h3
      simp at h2
      simp [h2]
  calc tmps = ⟨tmps.toList⟩ := rfl
    _ = ⟨(List.range 56).map (fun i => tmps.getD i undef)⟩ := by rw [h1]
    _ = _ := rfl
theorem FrN.frame {a : Act} {s0 s3 s4 s5 : Value} (h : FrN a s0 s3 s4 s5) : ∃ f : Nat → Value, (∀ i, a.tmps.getD i undef = f i) ∧ a = { tmps := #[s0, f 1, f 2, s3, s4, s5, f 6, f 7, f 8, f 9, f 10, f 11, f 12, f 13, f 14, f 15, f 16, f 17, f 18, f 19, f 20, f 21, f 22, f 23, f 24, f 25, f 26, f 27, f 28, f 29, f 30, f 31, f 32, f 33, f 34, f 35, f 36, f 37, f 38, f 39, f 40, f 41, f 42, f 43, f 44, f 45, f 46, f 47, f 48, f 49, f 50, f 51, f 52, f 53, f 54, f 55], defers := [] } := by
  refine ⟨fun i => a.tmps.getD i undef, fun _ => rfl, ?_⟩
  obtain ⟨tmps, defers⟩ := a
  have h1 := FrN_slots tmps h.size
  rw [h.e0, h.e3, h.e4, h.e5] at h1
  have h2 := h.marks
  simp only at h2
  rw [h2]
  exact congrArg (fun t => Act.mk t []) h1

set_option maxRecDepth 3000 in
set_option maxHeartbeats 16000000 in
theorem pwitness_any (v : Value) (xs : List Oq) (w : World) (hX : OpsAt w v xs) (hl : xs.length ≤ 4398046511104) (hf : Fit xs) :
    Calls Try.prog 19 #[v] w fun e w' => ∃ v', e = .returned v' ∧ RowAt w' v' (wtn xs) ∧ Below w.heap.size w w' := by
  have HX := hidden hX
  have HF := hidden hf
  obtain ⟨ao, cap, rfl, hc⟩ := hX.open_
  have HC := hidden hc
  clear hX hf hc
  cases hrt : right xs with
  | false =>
    have HT := hidden (show wtn xs = [] by unfold wtn; rw [if_neg (by simp [hrt])])
    have HRT := hidden hrt
    clear hrt
    go_enter Try.func19, Try.ntmps19
    go_wp2_with fail
    refine (pright_any _ xs w HX.out hl HF.out).mono ?_
    rw [HRT.out]
    rintro e w2 ⟨rfl, hb⟩
    have HB2 := hidden hb
    clear hb
    go_wp2_with fail
    go_ret
    exact ⟨_, rfl, by rw [HT.out]; exact RowAt.nil _ _ _, HB2.out⟩
  | true =>
    have HRT := hidden hrt
    have HAL := hidden (right_al0 hrt)
    obtain ⟨z, hz⟩ : ∃ z, tot 3 xs = z := ⟨_, rfl⟩
    have hz0 : 0 ≤ z := hz ▸ tot_pos 3 xs
    have hz1 : z ≤ 2147483648 := hz ▸ (right_parts hrt).2.2.2.1
    have HZ := hidden hz
    have HCN := hidden (show cnt 3 xs = z by rw [← hz]; exact cnt_is 3 xs (right_parts hrt).2.2.2.1)
    clear hrt hz
    by_cases hbig : z ≤ 5000
    case neg =>
      have HT := hidden (show wtn xs = [] by unfold wtn; rw [if_neg (by rw [HZ.out]; exact fun h => hbig h.2)])
      have hd1 : decide (z > 5000) = true := by simp; omega
      have hd2 : decide (5000 < z) = true := by simp; omega
      clear hbig
      go_enter Try.func19, Try.ntmps19
      go_wp2_with fail
      refine (pright_any _ xs w HX.out hl HF.out).mono ?_
      rw [HRT.out]
      rintro e w2 ⟨rfl, hb⟩
      have HB2 := hidden hb
      have HX2 := hidden (HX.out.later hb)
      clear hb
      go_wp2_with fail
      refine (polds_any _ xs w2 HX2.out hl).mono ?_
      rw [HCN.out]
      rintro e w3 ⟨rfl, hb⟩
      have HB3 := hidden (HB2.out.trans (hb.mono HB2.out.size))
      clear hb
      go_wp2_with fail
      go_ret
      exact ⟨_, rfl, by rw [HT.out]; exact RowAt.nil _ _ _, HB3.out⟩
    case pos =>
    have HT := hidden (show wtn xs = (wso qn xs).1 by unfold wtn wit; rw [if_pos ⟨HRT.out, by rw [HZ.out]; exact hbig⟩])
    have hd1 : decide (z > 5000) = false := by simp; omega
    have hd2 : decide (5000 < z) = false := by simp; omega
    go_enter Try.func19, Try.ntmps19
    go_wp2_with fail
    refine (pright_any _ xs w HX.out hl HF.out).mono ?_
    rw [HRT.out]
    rintro e w2 ⟨rfl, hb⟩
    have HB2 := hidden hb
    have HX2 := hidden (HX.out.later hb)
    clear hb
    go_wp2_with fail
    refine (polds_any _ xs w2 HX2.out hl).mono ?_
    rw [HCN.out]
    rintro e w3 ⟨rfl, hb⟩
    have HS := hidden (show K1 w (wso qn (xs.take 0)).1 (.slice none 0 0) w3 from ⟨HB2.out.trans (hb.mono HB2.out.size), ⟨rfl, Or.inl ⟨rfl, rfl⟩⟩⟩)
    clear hb HB2 HX2
    go_wp2_with fail
    refine wp_loop_ghost_k (fun g a' wr => ∃ (k : Nat) (vo s5 : Value), k ≤ xs.length ∧ FrN a' (.slice ao xs.length cap) vo (.int .i64 k) s5 ∧ Hid (g = xs.length - k ∧ K1 w (wso qn (xs.take k)).1 vo wr)) xs.length ?start ?round
    case start => exact ⟨0, _, _, Nat.zero_le _, ⟨rfl, rfl, rfl, rfl, rfl, rfl⟩, ⟨by omega, HS.out⟩⟩
    case round =>
    intro gk _ wr hinv
    obtain ⟨k, u3, u5, hk, hfr, hgs⟩ := hinv
    obtain ⟨ff, hff, ha⟩ := hfr.frame
    clear hff hfr HS hd1 hd2
    subst ha
    try dsimp only
    intro _ _ _ _
    have HG := hidden hgs.out.1
    have HK := hidden hgs.out.2
    clear hgs
    by_cases hlt : k < xs.length
    case neg =>
      have HE := hidden (show (wso qn (xs.take k)).1 = (wso qn xs).1 by rw [List.take_of_length_le (by omega)])
      go_wp2_with fail
      go_ret
      exact ⟨_, rfl, by rw [HT.out, ← HE.out]; exact RowAt.of_owns HK.out.own, HK.out.bel⟩
    case pos =>
    have HLO := hidden (show ((wso qn (xs.take k)).1.length : Int) ≤ 5000 by have := wso_len_take HAL.out k; rw [HZ.out] at this; omega)
    have HLO2 := hidden (show ((wso qn (xs.take (k + 1))).1.length : Int) ≤ 5000 by have := wso_len_take HAL.out (k + 1); rw [HZ.out] at this; omega)
    obtain ⟨x1, x2, x3, hx⟩ := op_some hlt
    obtain ⟨b, o, hao, hcap, hb, hcc⟩ := HC.out k _ hx
    subst hao
    obtain ⟨d1, d2, d3⟩ := three_later hb HK.out.bel hcc
    simp only at d1 d2 d3
    have HTS := hidden (wso_take qn hx)
    have hx9 := HAL.out _ (List.mem_of_getElem? hx)
    simp only [al0] at hx9
    clear hx hcc
    obtain ⟨s, hs⟩ : ∃ s, wso qn (xs.take k) = s := ⟨_, rfl⟩
    rw [hs] at HK HTS HLO
    obtain ⟨O, Nw⟩ := s
    clear hs
    simp only at HK HLO
    have hbs := HK.out.bel.size
    have hlo := HLO.out
    by_cases h1 : x1 = 1
    case pos =>
      subst h1
      have hp : 1 ≤ x2 := by omega
      have HT1 := hidden (show (wso qn (xs.take (k + 1))).1 = O ++ fillW qn O.length x2.toNat by rw [HTS.out, wst_skip])
      obtain ⟨N, hN⟩ : ∃ N : Nat, x2 = N := ⟨x2.toNat, by omega⟩
      subst hN
      rw [Int.toNat_natCast] at HT1
      have hNl : O.length + N ≤ 5000 := by
        have := HLO2.out
        rw [HT1.out, List.length_append, fillW_len] at this
        omega
      clear hx9
      have HS0 := hidden (show K1 w (O ++ fillW qn O.length 0) u3 wr by simpa [fillW] using HK.out)
      clear d3
      go_wp2_with fail
      refine wp_loop_ghost_k (fun g a' wi => ∃ (j : Nat) (vo : Value), j ≤ N ∧ FrN a' (.slice (some ⟨b, o, none⟩) xs.length cap) vo (.int .i64 k) (.int .i64 j) ∧ Hid (g = N - j ∧ K1 w (O ++ fillW qn O.length j) vo wi)) N ?start ?round
      case start => exact ⟨0, _, Nat.zero_le _, ⟨rfl, rfl, rfl, rfl, rfl, rfl⟩, ⟨by omega, HS0.out⟩⟩
      case round =>
      intro gj _ wi hinv
      obtain ⟨j, v3, hj, hfr, hgs⟩ := hinv
      obtain ⟨ff2, hff, ha⟩ := hfr.frame
      clear hff hfr HS0
      subst ha
      try dsimp only
      intro _ _ _ _
      have HJ := hidden hgs.out.1
      have HI := hidden hgs.out.2
      clear hgs
      have e2 := (HI.out.bel.cell (p := ⟨b, o + k * 3 + 1, none⟩) hb).trans ((HK.out.bel.cell (p := ⟨b, o + k * 3 + 1, none⟩) hb).symm.trans d2)
      have hbi := HI.out.bel.size
      clear d1 d2
      by_cases hjn : j < N
      case neg =>
        obtain rfl : j = N := by omega
        clear hjn
        go_wp2_with fail
        refine Handed.intro (xs.length - (k + 1)) (by have := HG.out; omega) ?_
        go_step
        exact ⟨k + 1, _, _, by omega, ⟨rfl, rfl, rfl, rfl, rfl, rfl⟩, ⟨rfl, by rw [HT1.out]; exact HI.out⟩⟩
      case pos =>
      obtain ⟨L, hL⟩ : ∃ L, O.length + j = L := ⟨_, rfl⟩
      have HLL := hidden (show (O ++ fillW qn O.length j).length = L by rw [List.length_append, fillW_len]; exact hL)
      have HFX := hidden (show O ++ fillW qn O.length (j + 1) = (O ++ fillW qn O.length j) ++ [qn L] by rw [fillW_succ, hL, List.append_assoc])
      obtain ⟨a3, c3, hv3⟩ : ∃ a c, v3 = .slice a L c := by obtain ⟨a, c, e⟩ := (RowAt.of_owns HI.out.own).shape; exact ⟨a, c, by rw [e, HLL.out]⟩
      subst hv3
      have hL5 : L ≤ 5000 := by omega
      have hj5 : j ≤ 5000 := by omega
      have HDL := hidden (dec_facts L).2.1
      obtain ⟨T0, hT0⟩ : ∃ t, dec L = t := ⟨_, rfl⟩
      obtain ⟨T1, hT1⟩ : ∃ t, 63 :: T0 = t := ⟨_, rfl⟩
      obtain ⟨T2, hT2⟩ : ∃ t, qn L = t := ⟨_, rfl⟩
      have hq1 : (⟨#[63]⟩ : ByteArray) ++ (⟨T0.toArray⟩ : ByteArray) = ⟨T1.toArray⟩ := by rw [← hT1]; exact appW [63] T0
      have hq2 : (⟨T1.toArray⟩ : ByteArray) ++ (⟨#[10]⟩ : ByteArray) = ⟨T2.toArray⟩ := by rw [← hT2, ← hT1, ← hT0]; exact appW _ [10]
      have hlT0 : T0.length ≤ 6000 := by have := HDL.out; rw [hT0] at this; omega
      have hlT1 : T1.length ≤ 6001 := by rw [← hT1]; simp; omega
      rw [hT2] at HFX
      have HD0 := hidden hT0
      generalize O ++ fillW qn O.length j = OF at HI HLL HFX
      clear hL hT0 hT1 hT2 hNl
      have hlf : OF.length ≤ 5000 := by rw [HLL.out]; exact hL5
      have HOW := hidden HI.out.own
      go_wp2_with fail
      refine (putNumW_any L wi (by omega)).mono ?_
      rw [HD0.out]
      rintro e w' ⟨rfl, hw⟩
      subst w'
      go_wp2_with (at_builtin; go_must (refine wpList_append_txt _ (by go_simp) (.tmp 36) (.tmp 42) rfl w.heap.size _ (.slice (some ⟨wi.heap.size, 0, none⟩) 1 1) OF [T2] rfl rfl (HOW.out.alloc _) (row_one _ _ _ rfl) (by simp; omega) (by simp; omega) ?_; intro v9 w9 hown9 hadd9))
      have HN := hidden (HI.out.add hown9 hadd9)
      clear hown9 hadd9
      refine Handed.intro (N - (j + 1)) (by have := HJ.out; omega) ?_
      go_step
      exact ⟨j + 1, _, by omega, ⟨rfl, rfl, rfl, rfl, rfl, rfl⟩, ⟨rfl, by rw [HFX.out]; exact HN.out⟩⟩
    case neg =>
    have h1b : (x1 == 1) = false := by simpa using h1
    by_cases h4 : x1 = 4
    case pos =>
      subst h4
      have HT1 := hidden (show (wso qn (xs.take (k + 1))).1 = O by rw [HTS.out, wst_ins])
      clear hx9 h1
      go_wp2_with fail
      refine Handed.intro (xs.length - (k + 1)) (by have := HG.out; omega) ?_
      go_step
      exact ⟨k + 1, _, _, by omega, ⟨rfl, rfl, rfl, rfl, rfl, rfl⟩, ⟨rfl, by rw [HT1.out]; exact HK.out⟩⟩
    case neg =>
    have h23 : x1 = 2 ∨ x1 = 3 := by omega
    have HT1 := hidden (show (wso qn (xs.take (k + 1))).1 = O ++ [x3] by rw [HTS.out, wst_line _ _ _ _ h23])
    clear hx9 h1 h4
    obtain ⟨a3, n3, c3, hv3⟩ : ∃ a n c, u3 = .slice a n c := by obtain ⟨a, c, e⟩ := (RowAt.of_owns HK.out.own).shape; exact ⟨_, _, _, e⟩
    subst hv3
    rcases h23 with rfl | rfl
    · go_wp2_with (at_builtin; go_must (refine wpList_append_txt _ (by go_simp) (.tmp 47) (.tmp 53) rfl w.heap.size _ (.slice (some ⟨wr.heap.size, 0, none⟩) 1 1) O [x3] rfl rfl (HK.out.own.alloc _) (row_one _ _ _ rfl) (by simp; omega) (by simp; omega) ?_; intro v9 w9 hown9 hadd9))
      have HN := hidden (HK.out.add hown9 hadd9)
      clear hown9 hadd9
      refine Handed.intro (xs.length - (k + 1)) (by have := HG.out; omega) ?_
      go_step
      exact ⟨k + 1, _, _, by omega, ⟨rfl, rfl, rfl, rfl, rfl, rfl⟩, ⟨rfl, by rw [HT1.out]; exact HN.out⟩⟩
    · go_wp2_with (at_builtin; go_must (refine wpList_append_txt _ (by go_simp) (.tmp 47) (.tmp 53) rfl w.heap.size _ (.slice (some ⟨wr.heap.size, 0, none⟩) 1 1) O [x3] rfl rfl (HK.out.own.alloc _) (row_one _ _ _ rfl) (by simp; omega) (by simp; omega) ?_; intro v9 w9 hown9 hadd9))
      have HN := hidden (HK.out.add hown9 hadd9)
      clear hown9 hadd9
      refine Handed.intro (xs.length - (k + 1)) (by have := HG.out; omega) ?_
      go_step
      exact ⟨k + 1, _, _, by omega, ⟨rfl, rfl, rfl, rfl, rfl, rfl⟩, ⟨rfl, by rw [HT1.out]; exact HN.out⟩⟩

end Go.Proofs.Ytbbbphlojefgjaa
