
/-
  What the document's own LcsLen and LcsDiff answer at any two rows of lines; conditions: how many lines they have.
-/
import Derived.Test.YtdjdiaadflggfaaHTable
import Derived.Test.YtdjdiaadflggfaaOStay
namespace Go.Proofs.Ytdjdiaadflggfaa
open Go.RowKit Go.Deep Go.Proofs.Ytdjdiaadflggfaa.Ln Go.Proofs.Ytdjdiaadflggfaa.Ol

set_option maxHeartbeats 2000000 in
theorem plcslen_any (v u : Value) (a b : List Tx) (w : World) (hA : RowAt w v a) (hB : RowAt w u b) (hla : a.length ≤ 4294967296) (hlb : b.length ≤ 4294967296) :
    Calls Try.prog 10 #[v, u] w fun e w' => e = .returned (.int .i64 (lc a b)) ∧ Below w.heap.size w w' := by
  have HA := hidden hA
  have HB := hidden hB
  obtain ⟨ao, cap, rfl⟩ := hA.shape
  obtain ⟨bo, cap2, rfl⟩ := hB.shape
  clear hA hB
  go_enter Try.func10, Try.ntmps10
  go_wp2_with fail
  refine (ptable_any _ _ a b w HA.out HB.out hla hlb).mono ?_
  rintro e w1 ⟨rfl, hk⟩
  have h0 := hk.slot 0 (Nat.zero_le _)
  have h1 := hk.cell 0 0 (Nat.zero_le _) (Nat.zero_le _)
  rw [show lr a b 0 0 = (lc a b : Int) from rfl] at h1
  rw [Nat.add_zero] at h0 h1
  have HK := hidden hk.bel
  clear hk
  go_wp2_with fail
  go_ret
  exact ⟨rfl, HK.out⟩

/-- what lies in memory while the steps are told -/
structure KD (w1 : World) (a b : List Tx) (i k : Nat) (out : List Oq) (vo : Value) (W : World) : Prop where
  bel : Below w1.heap.size w1 W
  own : W.ownsRow w1.heap.size 31 3 vo out.length (cellsO out)
  eq : out ++ df (a.drop i) (b.drop k) = df a b
theorem KD.drew {w1 : World} {a b : List Tx} {i k : Nat} {out : List Oq} {vo : Value} {W : World} (h : KD w1 a b i k out vo W) : KD w1 a b i k out vo W.drew :=
  ⟨h.bel.trans ((Below.refl _ W).drew.mono h.bel.size), owns_later h.own (Below.refl _ W).drew, h.eq⟩
theorem KD.add {w1 : World} {a b : List Tx} {i k i' k' : Nat} {out : List Oq} {vo v' : Value} {x : Oq} {W W' : World} (h : KD w1 a b i k out vo W) (ho : W'.ownsRow w1.heap.size 31 3 v' (out ++ [x]).length (cellsO (out ++ [x]))) (ha : Adds (W.alloc (opO x.1 x.2.1 x.2.2)) W' vo v') (he : df (a.drop i) (b.drop k) = x :: df (a.drop i') (b.drop k')) : KD w1 a b i' k' (out ++ [x]) v' W' :=
  ⟨adds_bel (bel_alloc h.bel _) (by have := h.bel.size; simp; omega) (h.own.alloc _) ha, ho, by rw [← h.eq, he]; simp⟩
theorem df_len_le (a b : List Tx) : (df a b).length ≤ a.length + b.length := by have := (df_len a b).1; omega
/-- the first case: both lines are one, and the common row is one longer with them -/
def C1 (a b : List Tx) (i k : Nat) : Prop := i < a.length ∧ k < b.length ∧ a[i]? = b[k]? ∧ lr a b i k = lr a b (i + 1) (k + 1) + 1
/-- the second case -/
def C2 (a b : List Tx) (i k : Nat) : Prop := k = b.length ∨ i < a.length ∧ lr a b i (k + 1) ≤ lr a b (i + 1) k
theorem df_one {a b : List Tx} {i k : Nat} {x : Tx} (hx : a[i]? = some x) (h : C1 a b i k) : df (a.drop i) (b.drop k) = (2, 0, x) :: df (a.drop (i + 1)) (b.drop (k + 1)) := by
  obtain ⟨h1, h2, h3, h4⟩ := h
  rw [hx] at h3
  obtain ⟨_, e1⟩ := List.getElem?_eq_some_iff.1 hx
  obtain ⟨_, e2⟩ := List.getElem?_eq_some_iff.1 h3.symm
  unfold lr at h4
  rw [List.drop_eq_getElem_cons h1, List.drop_eq_getElem_cons h2, e1, e2] at h4 ⊢
  rw [df_cons, if_pos ⟨rfl, by omega⟩]
theorem df_two {a b : List Tx} {i k : Nat} {x : Tx} (hx : a[i]? = some x) (h : ¬ C1 a b i k) (h2 : C2 a b i k) : df (a.drop i) (b.drop k) = (3, 0, x) :: df (a.drop (i + 1)) (b.drop k) := by
  obtain ⟨h1, e1⟩ := List.getElem?_eq_some_iff.1 hx
  rw [List.drop_eq_getElem_cons h1, e1]
  by_cases hk : b.length ≤ k
  · rw [List.drop_of_length_le hk]; rfl
  · have hk : k < b.length := by omega
    rcases h2 with h2 | ⟨_, h2⟩
    · omega
    · have h3 : ¬ (a[i]? = b[k]? ∧ lr a b i k = lr a b (i + 1) (k + 1) + 1) := fun e => h ⟨h1, hk, e⟩
      unfold lr at h2 h3
      rw [List.drop_eq_getElem_cons hk] at h2 h3 ⊢
      rw [List.drop_eq_getElem_cons h1, e1] at h2 h3
      rw [hx, List.getElem?_eq_getElem hk] at h3
      rw [df_cons, if_neg (fun e => h3 ⟨by rw [e.1], by have := e.2; omega⟩), if_pos (by omega)]
theorem df_three {a b : List Tx} {i k : Nat} {y : Tx} (hi : i ≤ a.length) (hy : b[k]? = some y) (h : ¬ C1 a b i k) (h2 : ¬ C2 a b i k) : df (a.drop i) (b.drop k) = (4, 0, y) :: df (a.drop i) (b.drop (k + 1)) := by
  obtain ⟨hk, e2⟩ := List.getElem?_eq_some_iff.1 hy
  by_cases hi2 : i = a.length
  · subst hi2
    rw [List.drop_length, df_nil, df_nil, List.drop_eq_getElem_cons hk, e2]; rfl
  · have h1 : i < a.length := by omega
    have h3 : ¬ (a[i]? = b[k]? ∧ lr a b i k = lr a b (i + 1) (k + 1) + 1) := fun e => h ⟨h1, hk, e⟩
    have h4 : ¬ lr a b i (k + 1) ≤ lr a b (i + 1) k := fun e => h2 (Or.inr ⟨h1, e⟩)
    unfold lr at h4 h3
    rw [List.drop_eq_getElem_cons hk, e2] at h4 h3 ⊢
    rw [List.drop_eq_getElem_cons h1] at h4 h3 ⊢
    rw [hy, List.getElem?_eq_getElem h1] at h3
    rw [df_cons, if_neg (fun e => h3 ⟨by rw [e.1], by have := e.2; omega⟩), if_neg (by omega)]

/-- the frame, as far as it matters -/
structure FrD (a : Act) (s0 s1 s5 s6 s7 s8 : Value) : Prop where
  size : a.tmps.size = 127
  e0 : a.tmps.getD 0 undef = s0
  e1 : a.tmps.getD 1 undef = s1
  e5 : a.tmps.getD 5 undef = s5
  e6 : a.tmps.getD 6 undef = s6
  e7 : a.tmps.getD 7 undef = s7
  e8 : a.tmps.getD 8 undef = s8
  marks : a.defers = []
theorem FrD_slots (tmps : Array Value) (h : tmps.size = 127) : tmps = #[tmps.getD 0 undef, tmps.getD 1 undef, tmps.getD 2 undef, tmps.getD 3 undef, tmps.getD 4 undef, tmps.getD 5 undef, tmps.getD 6 undef, tmps.getD 7 undef, tmps.getD 8 undef, tmps.getD 9 undef, tmps.getD 10 undef, tmps.getD 11 undef, tmps.getD 12 undef, tmps.getD 13 undef, tmps.getD 14 undef, tmps.getD 15 undef, tmps.getD 16 undef, tmps.getD 17 undef, tmps.getD 18 undef, tmps.getD 19 undef, tmps.getD 20 undef, tmps.getD 21 undef, tmps.getD 22 undef, tmps.getD 23 undef, tmps.getD 24 undef, tmps.getD 25 undef, tmps.getD 26 undef, tmps.getD 27 undef, tmps.getD 28 undef, tmps.getD 29 undef, tmps.getD 30 undef, tmps.getD 31 undef, tmps.getD 32 undef, tmps.getD 33 undef, tmps.getD 34 undef, tmps.getD 35 undef, tmps.getD 36 undef, tmps.getD 37 undef, tmps.getD 38 undef, tmps.getD 39 undef, tmps.getD 40 undef, tmps.getD 41 undef, tmps.getD 42 undef, tmps.getD 43 undef, tmps.getD 44 undef, tmps.getD 45 undef, tmps.getD 46 undef, tmps.getD 47 undef, tmps.getD 48 undef, tmps.getD 49 undef, tmps.getD 50 undef, tmps.getD 51 undef, tmps.getD 52 undef, tmps.getD 53 undef, tmps.getD 54 undef, tmps.getD 55 undef, tmps.getD 56 undef, tmps.getD 57 undef, tmps.getD 58 undef, tmps.getD 59 undef, tmps.getD 60 undef, tmps.getD 61 undef, tmps.getD 62 undef, tmps.getD 63 undef, tmps.getD 64 undef, tmps.getD 65 undef, tmps.getD 66 undef, tmps.getD 67 undef, tmps.getD 68 undef, tmps.getD 69 undef, tmps.getD 70 undef, tmps.getD 71 undef, tmps.getD 72 undef, tmps.getD 73 undef, tmps.getD 74 undef, tmps.getD 75 undef, tmps.getD 76 undef, tmps.getD 77 undef, tmps.getD 78 undef, tmps.getD 79 undef, tmps.getD 80 undef, tmps.getD 81 undef, tmps.getD 82 undef, tmps.getD 83 undef, tmps.getD 84 undef, tmps.getD 85 undef, tmps.getD 86 undef, tmps.getD 87 undef, tmps.getD 88 undef, tmps.getD 89 undef, tmps.getD 90 undef, tmps.getD 91 undef, tmps.getD 92 undef, tmps.getD 93 undef, tmps.getD 94 undef, tmps.getD 95 undef, tmps.getD 96 undef, tmps.getD 97 undef, tmps.getD 98 undef, tmps.getD 99 undef, tmps.getD 100 undef, tmps.getD 101 undef, tmps.getD 102 undef, tmps.getD 103 undef, tmps.getD 104 undef, tmps.getD 105 undef, tmps.getD 106 undef, tmps.getD 107 undef, tmps.getD 108 undef, tmps.getD 109 undef, tmps.getD 110 undef, tmps.getD 111 undef, tmps.getD 112 undef, tmps.getD 113 undef, tmps.getD 114 undef, tmps.getD 115 undef, tmps.getD 116 undef, tmps.getD 117 undef, tmps.getD 118 undef, tmps.getD 119 undef, tmps.getD 120 undef, tmps.getD 121 undef, tmps.getD 122 undef, tmps.getD 123 undef, tmps.getD 124 undef, tmps.getD 125 undef, tmps.getD 126 undef] := by
  have h1 : tmps.toList = (List.range 127).map (fun i => tmps.getD i undef) := by
    apply List.ext_getElem
    · simp [h]
    · intro i h2 h3
      simp at h2
      simp [h2]
  calc tmps = ⟨tmps.toList⟩ := rfl
    _ = ⟨(List.range 127).map (fun i => tmps.getD i undef)⟩ := by rw [h1]
    _ = _ := rfl
theorem FrD.frame {a : Act} {s0 s1 s5 s6 s7 s8 : Value} (h : FrD a s0 s1 s5 s6 s7 s8) : ∃ f : Nat → Value, (∀ i, a.tmps.getD i undef = f i) ∧ a = { tmps := #[s0, s1, f 2, f 3, f 4, s5, s6, s7, s8, f 9, f 10, f 11, f 12, f 13, f 14, f 15, f 16, f 17, f 18, f 19, f 20, f 21, f 22, f 23, f 24, f 25, f 26, f 27, f 28, f 29, f 30, f 31, f 32, f 33, f 34, f 35, f 36, f 37, f 38, f 39, f 40, f 41, f 42, f 43, f 44, f 45, f 46, f 47, f 48, f 49, f 50, f 51, f 52, f 53, f 54, f 55, f 56, f 57, f 58, f 59, f 60, f 61, f 62, f 63, f 64, f 65, f 66, f 67, f 68, f 69, f 70, f 71, f 72, f 73, f 74, f 75, f 76, f 77, f 78, f 79, f 80, f 81, f 82, f 83, f 84, f 85, f 86, f 87, f 88, f 89, f 90, f 91, f 92, f 93, f 94, f 95, f 96, f 97, f 98, f 99, f 100, f 101, f 102, f 103, f 104, f 105, f 106, f 107, f 108, f 109, f 110, f 111, f 112, f 113, f 114, f 115, f 116, f 117, f 118, f 119, f 120, f 121, f 122, f 123, f 124, f 125, f 126], defers := [] } := by
  refine ⟨fun i => a.tmps.getD i undef, fun _ => rfl, ?_⟩
  obtain ⟨tmps, defers⟩ := a
  have h1 := FrD_slots tmps h.size
  rw [h.e0, h.e1, h.e5, h.e6, h.e7, h.e8] at h1
  have h2 := h.marks
  simp only at h2
  rw [h2]
  exact congrArg (fun t => Act.mk t []) h1

open Classical in
set_option maxRecDepth 3000 in
set_option maxHeartbeats 16000000 in
theorem plcsdiff_any (v u : Value) (a b : List Tx) (w : World) (hA : RowAt w v a) (hB : RowAt w u b) (hla : a.length ≤ 4294967296) (hlb : b.length ≤ 4294967296) :
    Calls Try.prog 13 #[v, u] w fun e w' => ∃ v', e = .returned v' ∧ OpsAt w' v' (df a b) ∧ Below w.heap.size w w' := by
  have HA := hidden hA
  have HB := hidden hB
  obtain ⟨ao, cap, rfl, hca⟩ := hA.open_
  obtain ⟨bo, cap2, rfl, hcb⟩ := hB.open_
  obtain ⟨n, hn⟩ : ∃ n, a.length = n := ⟨_, rfl⟩
  obtain ⟨m, hm⟩ : ∃ m, b.length = m := ⟨_, rfl⟩
  have HT := hidden (ptable_any _ _ a b w HA.out HB.out hla hlb)
  unfold TAns at HT
  rw [hn, hm] at HT
  rw [hn] at hla hca ⊢
  rw [hm] at hlb hcb ⊢
  have HN := hidden hn
  have HM := hidden hm
  have HCA := hidden hca
  have HCB := hidden hcb
  clear hA hB hca hcb hn hm
  go_enter Try.func13, Try.ntmps13
  go_wp2_with fail
  refine HT.out.mono ?_
  rintro e w1 ⟨rfl, hk⟩
  have HK := hidden hk
  clear hk
  have HS := hidden (show KD w1 a b 0 0 [] (.slice none 0 0) w1 from ⟨Below.refl _ _, ⟨rfl, Or.inl ⟨rfl, rfl⟩⟩, rfl⟩)
  go_wp2_with fail
  refine wp_loop_ghost_k (fun g a' wr => ∃ (i k : Nat) (out : List Oq) (v6 : Value), i ≤ n ∧ k ≤ m ∧ FrD a' (.slice ao n cap) (.slice bo m cap2) (.slice (some ⟨w.heap.size, 0, none⟩) (n + 1) (n + 1)) v6 (.int .i64 i) (.int .i64 k) ∧ Hid (g = (n - i) + (m - k) ∧ KD w1 a b i k out v6 wr)) (n + m) ?start ?round
  case start => exact ⟨0, 0, [], _, Nat.zero_le _, Nat.zero_le _, ⟨rfl, rfl, rfl, rfl, rfl, rfl, rfl, rfl⟩, ⟨by simp, HS.out⟩⟩
  case round =>
  intro gk _ wr hinv
  obtain ⟨i, k, out, u6, hin, hkm, hfr, hgs⟩ := hinv
  obtain ⟨ff, hff, ha⟩ := hfr.frame
  clear hff hfr
  subst ha
  try dsimp only
  intro _ _ _ _
  have HG := hidden hgs.out.1
  have HD := hidden hgs.out.2
  clear hgs HS
  have HLO := hidden (show out.length ≤ 8589934592 by
    have h1 := congrArg List.length HD.out.eq
    have h2 := df_len_le a b
    rw [HN.out, HM.out] at h2
    rw [List.length_append] at h1
    omega)
  by_cases hend : i = n ∧ k = m
  · obtain ⟨rfl, rfl⟩ := hend
    have HE := hidden (show out = df a b by
      have := HD.out.eq
      rw [List.drop_of_length_le (by rw [HN.out]; exact Nat.le_refl _), List.drop_of_length_le (by rw [HM.out]; exact Nat.le_refl _), df_nil, List.map_nil, List.append_nil] at this
      exact this)
    go_wp2_with fail
    go_ret
    exact ⟨_, rfl, by rw [← HE.out]; exact OpsAt.of_owns HD.out.own, HK.out.bel.trans (HD.out.bel.mono HK.out.bel.size)⟩
  go_upto_region 5 with fail
  refine wp_cut (fun a' wx => FrD a' (.slice ao n cap) (.slice bo m cap2) (.slice (some ⟨w.heap.size, 0, none⟩) (n + 1) (n + 1)) u6 (.int .i64 i) (.int .i64 k) ∧ a'.tmps.getD 21 undef = .bool true ∧ Hid (KD w1 a b i k out u6 wx)) ?rest ?first
  case first =>
    intro J9 K9 hJ9 hK9
    by_cases h : i < n
    · clear hend
      go_wp2_with fail
      first | refine Met.intro (hJ9 _ _ ?_) | refine hK9 _ _ (Met.intro (hJ9 _ _ ?_))
      exact ⟨⟨rfl, rfl, rfl, rfl, rfl, rfl, rfl, rfl⟩, rfl, HD.out⟩
    · have hkm2 : k < m := by omega
      obtain rfl : i = n := by omega
      clear hend h
      go_wp2_with fail
      first | refine Met.intro (hJ9 _ _ ?_) | refine hK9 _ _ (Met.intro (hJ9 _ _ ?_))
      exact ⟨⟨rfl, rfl, rfl, rfl, rfl, rfl, rfl, rfl⟩, rfl, HD.out⟩
  case rest =>
  intro _ wc hinv
  obtain ⟨hfr, hv, HD1⟩ := hinv
  obtain ⟨ff3, hff, ha⟩ := hfr.frame
  rw [hff 21] at hv
  clear hff hfr
  subst ha
  try dsimp only
  rw [hv]
  clear hv
  clear HD
  go_upto_region 8 with fail
  refine wp_cut (fun a' wx => FrD a' (.slice ao n cap) (.slice bo m cap2) (.slice (some ⟨w.heap.size, 0, none⟩) (n + 1) (n + 1)) u6 (.int .i64 i) (.int .i64 k) ∧ a'.tmps.getD 32 undef = .bool (decide (C1 a b i k)) ∧ Hid (KD w1 a b i k out u6 wx)) ?rest ?first
  case first =>
    intro J9 K9 hJ9 hK9
    by_cases h : i < n
    · by_cases h2 : k < m
      · obtain ⟨x, hx⟩ : ∃ x, a[i]? = some x := ⟨a[i]'(by rw [HN.out]; exact h), List.getElem?_eq_getElem _⟩
        obtain ⟨y, hy⟩ : ∃ y, b[k]? = some y := ⟨b[k]'(by rw [HM.out]; exact h2), List.getElem?_eq_getElem _⟩
        obtain ⟨b1, o1, hao, hcp1, hb1, cx⟩ := HCA.out i x hx
        obtain ⟨b2, o2, hbo, hcp2, hb2, cy⟩ := HCB.out k y hy
        subst hao hbo
        have hB := HK.out.bel.trans (HD1.out.bel.mono HK.out.bel.size)
        have cx2 := (hB.cell (p := ⟨b1, o1 + i, none⟩) hb1).trans cx
        have cy2 := (hB.cell (p := ⟨b2, o2 + k, none⟩) hb2).trans cy
        have hK := HK.out.later HD1.out.bel
        have n1 := hK.slot i (by omega)
        have n2 := hK.slot (i + 1) (by omega)
        have n3 := hK.cell i k (by omega) (by omega)
        have n4 := hK.cell (i + 1) (k + 1) (by omega) (by omega)
        have HC := hidden (show C1 a b i k ↔ x = y ∧ lr a b i k = lr a b (i + 1) (k + 1) + 1 by
          unfold C1
          rw [hx, hy, HN.out, HM.out]
          simp [h, h2])
        have hr1 := lr_le a b (i + 1) (k + 1)
        rw [HN.out] at hr1
        obtain ⟨z, hz⟩ : ∃ z, lr a b i k = z := ⟨_, rfl⟩
        obtain ⟨r, hr⟩ : ∃ r, lr a b (i + 1) (k + 1) = r := ⟨_, rfl⟩
        rw [hz, hr] at HC
        rw [hr] at n4 hr1
        rw [hz] at n3
        clear hx hy cx cy hB hK hz hr hend
        by_cases hxy : x = y
        · subst hxy
          have hqq : (x == x) = true := by simp
          have HE := hidden (show decide (C1 a b i k) = (z == r + 1) by
            rw [Bool.eq_iff_iff, decide_eq_true_iff, HC.out]; simp)
          go_region
          first | refine Met.intro (hJ9 _ _ ?_) | refine hK9 _ _ (Met.intro (hJ9 _ _ ?_))
          exact ⟨⟨rfl, rfl, rfl, rfl, rfl, rfl, rfl, rfl⟩, by rw [HE.out]; rfl, by first | exact HD1.out | exact HD1.out.drew⟩
        · have hqq : (x == y) = false := by simpa using hxy
          have HE := hidden (show decide (C1 a b i k) = false from decide_eq_false fun e => hxy (HC.out.1 e).1)
          clear hxy
          go_region
          first | refine Met.intro (hJ9 _ _ ?_) | refine hK9 _ _ (Met.intro (hJ9 _ _ ?_))
          exact ⟨⟨rfl, rfl, rfl, rfl, rfl, rfl, rfl, rfl⟩, by rw [HE.out]; rfl, by first | exact HD1.out | exact HD1.out.drew⟩
      · obtain rfl : k = m := by omega
        have HE := hidden (show decide (C1 a b i k) = false from decide_eq_false fun e => by have := e.2.1; rw [HM.out] at this; omega)
        clear h2 hend
        go_region
        first | refine Met.intro (hJ9 _ _ ?_) | refine hK9 _ _ (Met.intro (hJ9 _ _ ?_))
        exact ⟨⟨rfl, rfl, rfl, rfl, rfl, rfl, rfl, rfl⟩, by rw [HE.out]; rfl, by first | exact HD1.out | exact HD1.out.drew⟩
    · obtain rfl : i = n := by omega
      have HE := hidden (show decide (C1 a b i k) = false from decide_eq_false fun e => by have := e.1; rw [HN.out] at this; omega)
      clear h hend
      go_region
      first | refine Met.intro (hJ9 _ _ ?_) | refine hK9 _ _ (Met.intro (hJ9 _ _ ?_))
      exact ⟨⟨rfl, rfl, rfl, rfl, rfl, rfl, rfl, rfl⟩, by rw [HE.out]; rfl, by first | exact HD1.out | exact HD1.out.drew⟩
  case rest =>
  intro _ wc hinv
  obtain ⟨hfr, hv, HD2⟩ := hinv
  obtain ⟨ff3, hff, ha⟩ := hfr.frame
  rw [hff 32] at hv
  clear hff hfr
  subst ha
  try dsimp only
  rw [hv]
  clear hv
  clear HD1
  by_cases hc1 : C1 a b i k
  · rw [decide_eq_true hc1]
    have hin2 : i < n := by have := hc1.1; rwa [HN.out] at this
    have hkm2 : k < m := by have := hc1.2.1; rwa [HM.out] at this
    obtain ⟨x, hx⟩ : ∃ x, a[i]? = some x := ⟨a[i]'(by rw [HN.out]; exact hin2), List.getElem?_eq_getElem _⟩
    obtain ⟨b1, o1, hao, hcp1, hb1, cx⟩ := HCA.out i x hx
    subst hao
    have cx2 := ((HK.out.bel.trans (HD2.out.bel.mono HK.out.bel.size)).cell (p := ⟨b1, o1 + i, none⟩) hb1).trans cx
    have HE := hidden (df_one hx hc1)
    clear cx hx hc1 hend
    have hbw := HD2.out.bel.size
    have hlo := HLO.out
    go_wp2_with (at_builtin; go_must (refine wpList_append_ops _ (by go_simp) (.tmp 74) (.tmp 80) rfl w1.heap.size _ (.slice (some ⟨wc.heap.size, 0, none⟩) 1 1) out [(2, 0, x)] rfl rfl (HD2.out.own.alloc _) (ops_oneAt _ _ _ _ _ (by simp)) (by simp; omega) (by simp; omega) ?_; intro v9 w9 hown9 hadd9))
    have HN9 := hidden (HD2.out.add hown9 hadd9 HE.out)
    clear hown9 hadd9
    refine Handed.intro ((n - (i + 1)) + (m - (k + 1))) (by have := HG.out; omega) ?_
    go_step
    exact ⟨i + 1, k + 1, _, _, by omega, by omega, ⟨rfl, rfl, rfl, rfl, rfl, rfl, rfl, rfl⟩, ⟨rfl, HN9.out⟩⟩
  rw [decide_eq_false hc1]
  have HC1 := hidden hc1
  clear hc1
  go_upto_region 12 with fail
  refine wp_cut (fun a' wx => FrD a' (.slice ao n cap) (.slice bo m cap2) (.slice (some ⟨w.heap.size, 0, none⟩) (n + 1) (n + 1)) u6 (.int .i64 i) (.int .i64 k) ∧ a'.tmps.getD 86 undef = .bool (decide (C2 a b i k)) ∧ Hid (KD w1 a b i k out u6 wx)) ?rest ?first
  case first =>
    intro J9 K9 hJ9 hK9
    by_cases h2 : k = m
    · subst h2
      have HE := hidden (show decide (C2 a b i k) = true from decide_eq_true (Or.inl HM.out.symm))
      clear hend
      go_region
      first | refine Met.intro (hJ9 _ _ ?_) | refine hK9 _ _ (Met.intro (hJ9 _ _ ?_))
      exact ⟨⟨rfl, rfl, rfl, rfl, rfl, rfl, rfl, rfl⟩, by rw [HE.out]; rfl, by first | exact HD2.out | exact HD2.out.drew⟩
    · have hk2 : k < m := by omega
      have hkb : ((k : Int) == m) = false := by simp; omega
      by_cases h : i < n
      · have hK := HK.out.later HD2.out.bel
        have n1 := hK.slot i (by omega)
        have n2 := hK.slot (i + 1) (by omega)
        have n3 := hK.cell (i + 1) k (by omega) (by omega)
        have n4 := hK.cell i (k + 1) (by omega) (by omega)
        obtain ⟨p, hp⟩ : ∃ p, lr a b (i + 1) k = p := ⟨_, rfl⟩
        obtain ⟨q, hq⟩ : ∃ q, lr a b i (k + 1) = q := ⟨_, rfl⟩
        have HE := hidden (show decide (C2 a b i k) = decide (q ≤ p) by
          rw [Bool.eq_iff_iff, decide_eq_true_iff, decide_eq_true_iff]
          unfold C2
          rw [HN.out, HM.out, hp, hq]
          constructor
          · rintro (e | ⟨_, e⟩)
            · exact absurd e h2
            · exact e
          · exact fun e => Or.inr ⟨h, e⟩)
        rw [hp] at n3
        rw [hq] at n4
        clear hK hp hq hend h2
        go_region
        first | refine Met.intro (hJ9 _ _ ?_) | refine hK9 _ _ (Met.intro (hJ9 _ _ ?_))
        exact ⟨⟨rfl, rfl, rfl, rfl, rfl, rfl, rfl, rfl⟩, by rw [HE.out]; first | rfl | simp, by first | exact HD2.out | exact HD2.out.drew⟩
      · obtain rfl : i = n := by omega
        have HE := hidden (show decide (C2 a b i k) = false from decide_eq_false fun e => by
          rcases e with e | ⟨e, _⟩
          · rw [HM.out] at e; exact h2 e
          · rw [HN.out] at e; omega)
        clear h h2 hend
        go_region
        first | refine Met.intro (hJ9 _ _ ?_) | refine hK9 _ _ (Met.intro (hJ9 _ _ ?_))
        exact ⟨⟨rfl, rfl, rfl, rfl, rfl, rfl, rfl, rfl⟩, by rw [HE.out]; rfl, by first | exact HD2.out | exact HD2.out.drew⟩
  case rest =>
  intro _ wc hinv
  obtain ⟨hfr, hv, HD3⟩ := hinv
  obtain ⟨ff3, hff, ha⟩ := hfr.frame
  rw [hff 86] at hv
  clear hff hfr
  subst ha
  try dsimp only
  rw [hv]
  clear hv
  clear HD2
  have hbw := HD3.out.bel.size
  have hlo := HLO.out
  by_cases hc2 : C2 a b i k
  · rw [decide_eq_true hc2]
    have hin2 : i < n := by
      rcases hc2 with h | ⟨h, _⟩
      · rw [HM.out] at h; omega
      · rwa [HN.out] at h
    obtain ⟨x, hx⟩ : ∃ x, a[i]? = some x := ⟨a[i]'(by rw [HN.out]; exact hin2), List.getElem?_eq_getElem _⟩
    obtain ⟨b1, o1, hao, hcp1, hb1, cx⟩ := HCA.out i x hx
    subst hao
    have cx2 := ((HK.out.bel.trans (HD3.out.bel.mono HK.out.bel.size)).cell (p := ⟨b1, o1 + i, none⟩) hb1).trans cx
    have HE := hidden (df_two hx HC1.out hc2)
    clear cx hx hc2 hend
    go_wp2_with (at_builtin; go_must (refine wpList_append_ops _ (by go_simp) (.tmp 116) (.tmp 122) rfl w1.heap.size _ (.slice (some ⟨wc.heap.size, 0, none⟩) 1 1) out [(3, 0, x)] rfl rfl (HD3.out.own.alloc _) (ops_oneAt _ _ _ _ _ (by simp)) (by simp; omega) (by simp; omega) ?_; intro v9 w9 hown9 hadd9))
    have HN9 := hidden (HD3.out.add hown9 hadd9 HE.out)
    clear hown9 hadd9
    refine Handed.intro ((n - (i + 1)) + (m - k)) (by have := HG.out; omega) ?_
    go_step
    exact ⟨i + 1, k, _, _, by omega, by omega, ⟨rfl, rfl, rfl, rfl, rfl, rfl, rfl, rfl⟩, ⟨rfl, HN9.out⟩⟩
  · rw [decide_eq_false hc2]
    have hkm2 : k < m := by
      have : ¬ k = b.length := fun e => hc2 (Or.inl e)
      rw [HM.out] at this; omega
    obtain ⟨y, hy⟩ : ∃ y, b[k]? = some y := ⟨b[k]'(by rw [HM.out]; exact hkm2), List.getElem?_eq_getElem _⟩
    obtain ⟨b2, o2, hbo, hcp2, hb2, cy⟩ := HCB.out k y hy
    subst hbo
    have cy2 := ((HK.out.bel.trans (HD3.out.bel.mono HK.out.bel.size)).cell (p := ⟨b2, o2 + k, none⟩) hb2).trans cy
    have HE := hidden (df_three (by rw [HN.out]; exact hin) hy HC1.out hc2)
    clear cy hy hc2 hend
    go_wp2_with (at_builtin; go_must (refine wpList_append_ops _ (by go_simp) (.tmp 22) (.tmp 28) rfl w1.heap.size _ (.slice (some ⟨wc.heap.size, 0, none⟩) 1 1) out [(4, 0, y)] rfl rfl (HD3.out.own.alloc _) (ops_oneAt _ _ _ _ _ (by simp)) (by simp; omega) (by simp; omega) ?_; intro v9 w9 hown9 hadd9))
    have HN9 := hidden (HD3.out.add hown9 hadd9 HE.out)
    clear hown9 hadd9
    refine Handed.intro ((n - i) + (m - (k + 1))) (by have := HG.out; omega) ?_
    go_step
    exact ⟨i, k + 1, _, _, by omega, by omega, ⟨rfl, rfl, rfl, rfl, rfl, rfl, rfl, rfl⟩, ⟨rfl, HN9.out⟩⟩

end Go.Proofs.Ytdjdiaadflggfaa
