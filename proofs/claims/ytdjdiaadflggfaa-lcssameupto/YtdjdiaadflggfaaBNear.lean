
/-
  What the program's near answers: the marks between two words, found by halving; conditions: where the marks lie, that they rise.
-/
import Derived.Test.YtdjdiaadflggfaaBAdd
namespace Go.Proofs.Ytdjdiaadflggfaa
open Go.RowKit Go.Proofs.Ytdjdiaadflggfaa.Ln Go.Proofs.Ytdjdiaadflggfaa.Ol

theorem bisnan_any (z : Int) (w : World) : Calls Try.prog 42 #[.int .i64 z] w fun e w' => e = .returned (.bool false) ∧ w' = w := by
  have h : (z != z) = false := by simp
  go_enter Try.func42, Try.ntmps42
  go_wp2_with fail
  go_ret
  exact ⟨rfl, rfl⟩
/-- how two numbers stand -/
def cmpI (a b : Int) : Int := if a < b then -1 else if b < a then 1 else 0
theorem bcompare_any (a b : Int) (w : World) : Calls Try.prog 41 #[.int .i64 a, .int .i64 b] w fun e w' => e = .returned (.int .i64 (cmpI a b)) ∧ w' = w := by
  go_enter Try.func41, Try.ntmps41
  go_wp2_with fail
  refine (bisnan_any a w).mono ?_
  rintro e w' ⟨rfl, hw⟩
  subst w'
  go_wp2_with fail
  refine (bisnan_any b w).mono ?_
  rintro e w' ⟨rfl, hw⟩
  subst w'
  by_cases h1 : a < b
  · have HC := hidden (show cmpI a b = -1 from if_pos h1)
    have hd : decide (a < b) = true := by simpa using h1
    go_wp2_with fail
    go_ret
    exact ⟨by rw [HC.out]; rfl, rfl⟩
  · have hd : decide (a < b) = false := by simpa using h1
    by_cases h2 : b < a
    · have HC := hidden (show cmpI a b = 1 by unfold cmpI; rw [if_neg h1, if_pos h2])
      have hd2 : decide (a > b) = true := by simpa using h2
      have hd3 : decide (b < a) = true := by simpa using h2
      go_wp2_with fail
      go_ret
      exact ⟨by rw [HC.out]; rfl, rfl⟩
    · have HC := hidden (show cmpI a b = 0 by unfold cmpI; rw [if_neg h1, if_neg h2])
      have hd2 : decide (a > b) = false := by simpa using h2
      have hd3 : decide (b < a) = false := by simpa using h2
      go_wp2_with fail
      go_ret
      exact ⟨by rw [HC.out]; rfl, rfl⟩
theorem bagainst_any (x : Int) (m : Nat) (z : Int) (w : World) : Calls Try.prog 39 #[.agg #[.int .i64 x, .int .u64 m], .int .i64 z] w fun e w' => e = .returned (.int .i64 (cmpI x z)) ∧ Below w.heap.size w w' := by
  have HB := hidden (bel_alloc (Below.refl w.heap.size w) (.cells #[.int .i64 x, .int .u64 m] 71))
  go_enter Try.func39, Try.ntmps39
  go_wp2_with fail
  refine (bcompare_any x z _).mono ?_
  rintro e w' ⟨rfl, hw⟩
  have hb : Below w.heap.size w w' := by rw [hw]; exact HB.out
  have HB2 := hidden hb
  clear hw hb HB
  go_wp2_with fail
  go_ret
  exact ⟨rfl, HB2.out⟩

theorem sorted_at {ws : List Nat} (hs : ws.Pairwise (· < ·)) {t m x y : Nat} (h1 : t ≤ m) (hx : ws[m]? = some x) (hy : ws[t]? = some y) : y ≤ x := by
  obtain ⟨l1, e1⟩ := List.getElem?_eq_some_iff.1 hx
  obtain ⟨l2, e2⟩ := List.getElem?_eq_some_iff.1 hy
  by_cases e : t = m
  · subst e; omega
  · have := List.pairwise_iff_getElem.1 hs t m l2 l1 (by omega)
    omega

set_option maxHeartbeats 2000000 in
theorem bsearch_any (a : Option Addr) (n c : Nat) (ws : List Nat) (g : Bs) (z : Int) (w : World) (hM : MkAt w (.slice a n c) ws g) (hn : ws.length = n) (hs : ws.Pairwise (· < ·)) (hb : n ≤ 4194304) :
    Calls Try.prog 38 #[.slice a n c, .int .i64 z, .func (.func 39) #[] #[]] w fun e w' => (∃ k : Nat, ∃ b, k ≤ n ∧ e = .returned (.tuple #[.int .i64 k, .bool b]) ∧ (∀ t x, t < k → ws[t]? = some x → (x : Int) < z) ∧ (∀ t x, k ≤ t → ws[t]? = some x → z ≤ (x : Int))) ∧ Below w.heap.size w w' := by
  have HM := hidden hM
  have HN := hidden hn
  have HS := hidden hs
  clear hM hs hn
  go_enter Try.func38, Try.ntmps38
  go_wp2_with fail
  go_loopw [9, 10] (fun i j wr => ∃ p q : Nat, p ≤ q ∧ q ≤ n ∧ i = .int .i64 p ∧ j = .int .i64 q ∧ Hid ((∀ t x, t < p → ws[t]? = some x → (x : Int) < z) ∧ (∀ t x, q ≤ t → ws[t]? = some x → z ≤ (x : Int)) ∧ Below w.heap.size w wr)) (fun i j _ => (intOf j).toNat - (intOf i).toNat)
  case atStart => exact ⟨0, n, Nat.zero_le _, Nat.le_refl _, rfl, rfl, (fun t x h => absurd h (Nat.not_lt_zero _)), (fun t x h1 h2 => by have := (List.getElem?_eq_some_iff.1 h2).1; rw [HN.out] at this; omega), Below.refl _ _⟩
  case round =>
    obtain ⟨p, q, hpq, hq, rfl, rfl, hst⟩ := hrel
    by_cases hlt : p < q
    · obtain ⟨m, hm⟩ : ∃ m, (p + q) / 2 = m := ⟨_, rfl⟩
      have hm1 : p ≤ m := by omega
      have hm2 : m < q := by omega
      have hmI : ((p : Int) + q) / 2 = m := by omega
      obtain ⟨x, hx⟩ : ∃ x, ws[m]? = some x := ⟨ws[m]'(by rw [HN.out]; omega), List.getElem?_eq_getElem _⟩
      obtain ⟨s1, s2, s3⟩ := hst.out
      obtain ⟨b, o, rfl, hnc, hb, m1, m2⟩ := (HM.out.later s3).open_ HN.out hx
      have HX := hidden hx
      have HS3 := hidden s3
      have HS1 := hidden s1
      have HS2 := hidden s2
      clear hst s1 s2 s3 hx hm
      go_wp2_with fail
      refine (bagainst_any x _ z _).mono ?_
      rintro e w2 ⟨rfl, hb2⟩
      have HB2 := hidden (HS3.out.trans (hb2.mono HS3.out.size))
      clear hb2 HS3 m1 m2
      by_cases hxz : (x : Int) < z
      · have HS4 := hidden (show ∀ t y, t < m + 1 → ws[t]? = some y → (y : Int) < z from fun t y h1 h2 => by
          have := sorted_at HS.out (show t ≤ m by omega) HX.out h2
          omega)
        rw [show cmpI x z = -1 from if_pos hxz]
        go_wp2_with fail
        go_roundw
        case rel => exact ⟨m + 1, q, by omega, by omega, by go_num, rfl, HS4.out, HS2.out, HB2.out⟩
        case measure => simp [intOf]; omega
      · have HS4 := hidden (show ∀ t y, m ≤ t → ws[t]? = some y → z ≤ (y : Int) from fun t y h1 h2 => by
          have := sorted_at HS.out h1 h2 HX.out
          omega)
        obtain ⟨d, hd⟩ : ∃ d, cmpI x z = d := ⟨_, rfl⟩
        have hd0 : 0 ≤ d := by rw [← hd]; unfold cmpI; rw [if_neg hxz]; split <;> omega
        rw [hd]
        clear hd
        have hdd : decide (d < 0) = false := by simp; omega
        go_wp2_with fail
        go_roundw
        case rel => exact ⟨p, m, by omega, by omega, rfl, rfl, HS1.out, HS4.out, HB2.out⟩
        case measure => simp [intOf]; omega
    · obtain rfl : p = q := by omega
      obtain ⟨s1, s2, s3⟩ := hst.out
      have HS1 := hidden s1
      have HS2 := hidden s2
      have HS3 := hidden s3
      clear hst s1 s2
      by_cases hpn : p < n
      · obtain ⟨x, hx⟩ : ∃ x, ws[p]? = some x := ⟨ws[p]'(by rw [HN.out]; omega), List.getElem?_eq_getElem _⟩
        obtain ⟨b, o, rfl, hnc, hb, m1, m2⟩ := (HM.out.later s3).open_ HN.out hx
        clear s3 hx
        have hd : decide ((p : Int) < n) = true := by simpa using hpn
        go_wp2_with fail
        refine (bagainst_any x _ z _).mono ?_
        rintro e w2 ⟨rfl, hb2⟩
        have HB2 := hidden (HS3.out.trans (hb2.mono HS3.out.size))
        clear hb2 HS3 m1 m2
        go_wp2_with fail
        refine bodyPost_ret (v := .tuple #[.int .i64 p, .bool (cmpI x z == 0)]) (by simp [results, Try.results38, go_sem]) rfl ?_
        exact ⟨⟨p, _, by omega, rfl, HS1.out, HS2.out⟩, HB2.out⟩
      · have hd : decide ((p : Int) < n) = false := by simpa using hpn
        clear s3
        go_wp2_with fail
        refine bodyPost_ret (v := .tuple #[.int .i64 p, .bool false]) (by simp [results, Try.results38, go_sem]) rfl ?_
        exact ⟨⟨p, _, by omega, rfl, HS1.out, HS2.out⟩, HS3.out⟩

/-- a part of the marks -/
theorem MkAt.part {W : World} {b o n c : Nat} {ws : List Nat} {g : Bs} (h : MkAt W (.slice (some ⟨b, o, none⟩) n c) ws g) (hn : ws.length = n) {i j : Nat} (hij : i ≤ j) (hj : j ≤ n) (c' : Nat) (hc : c - i ≤ c') (o' : Nat) (ho : i < j → o' = o + i * 2) : MkAt W (.slice (some ⟨b, o', none⟩) (j - i) c') ((ws.take j).drop i) g := by
  have hl : ((ws.take j).drop i).length = j - i := by rw [List.length_drop, List.length_take, hn]; omega
  by_cases h0 : j - i = 0
  · rw [h0, List.eq_nil_of_length_eq_zero (hl.trans h0)]; exact Or.inl ⟨rfl, _, _, rfl, fun e => by cases e⟩
  · obtain rfl := ho (by omega)
    rcases h with ⟨rfl, _⟩ | ⟨b', o', cap, cur, fr, e, h1, h2, h3⟩
    · simp at hn; omega
    · cases e
      refine Or.inr ⟨b, o + i * 2, c', cur, fr, by rw [hl], by rw [hl]; omega, h2, fun t x hx => ?_⟩
      rw [List.getElem?_drop, List.getElem?_take] at hx
      split at hx
      · have := h3 (i + t) x hx
        rw [show o + i * 2 + t * 2 = o + (i + t) * 2 by omega]
        exact this
      · cases hx
theorem part_mem {ws : List Nat} {k1 k2 : Nat} {lo hi : Int} (_hk : k1 ≤ k2) (h1 : ∀ t x, t < k1 → ws[t]? = some x → (x : Int) < lo) (h2 : ∀ t x, k1 ≤ t → ws[t]? = some x → lo ≤ (x : Int)) (h3 : ∀ t x, t < k2 → ws[t]? = some x → (x : Int) < hi) (h4 : ∀ t x, k2 ≤ t → ws[t]? = some x → hi ≤ (x : Int)) (x : Nat) : x ∈ (ws.take k2).drop k1 ↔ x ∈ ws ∧ lo ≤ x ∧ x < hi := by
  constructor
  · intro h
    obtain ⟨t, ht⟩ := List.mem_iff_getElem?.1 h
    rw [List.getElem?_drop, List.getElem?_take] at ht
    split at ht
    · exact ⟨List.mem_of_getElem? ht, h2 _ _ (by omega) ht, h3 _ _ (by omega) ht⟩
    · cases ht
  · rintro ⟨h, a, b⟩
    obtain ⟨t, ht⟩ := List.mem_iff_getElem?.1 h
    have q1 : k1 ≤ t := Decidable.byContradiction fun hh => by have := h1 t x (by omega) ht; omega
    have q2 : t < k2 := Decidable.byContradiction fun hh => by have := h4 t x (by omega) ht; omega
    refine List.mem_iff_getElem?.2 ⟨t - k1, ?_⟩
    rw [List.getElem?_drop, List.getElem?_take, show k1 + (t - k1) = t by omega, if_pos q2, ht]
theorem tdiv_bd {x K : Int} (h1 : -K ≤ x) (h2 : x ≤ K) : -K ≤ x.tdiv 64 ∧ x.tdiv 64 ≤ K := by
  by_cases h : 0 ≤ x
  · rw [Int.tdiv_eq_ediv_of_nonneg h]; omega
  · obtain ⟨y, rfl⟩ : ∃ y, x = -y := ⟨-x, by omega⟩
    rw [Int.neg_tdiv, Int.tdiv_eq_ediv_of_nonneg (by omega)]; omega
/-- the words between which the marks may be of use -/
def loW (bh ah wd : Int) : Int := Int.tdiv (bh + (ah - wd) / 2) 64
def hiW (bh ah wd : Int) : Int := Int.tdiv (bh + (ah + wd) / 2) 64 + 1
set_option maxHeartbeats 2000000 in
theorem bnear_any {B T : Nat} {ah wd mo : Int} {v0 : Value} {a1 : Option Addr} {m c1 : Nat} {at_ : Nat} {vI vT vS : Value} {V : Bs} {N : Nat} {L : List Tn} {S : List Sp} {w : World} (h : Tb B T ah wd mo v0 (.slice a1 m c1) at_ vI vT vS V N L S w) (a : Option Addr) (n c : Nat) (ws : List Nat) (g : Bs) (hM : MkAt w (.slice a n c) ws g) (hn : ws.length = n) (hs : ws.Pairwise (· < ·)) (hb : n ≤ 4194304)
    (hat : at_ < m) (hm : m ≤ 1073741824) (hah : -1073741824 ≤ ah ∧ ah ≤ 1073741824) (hwd : 0 ≤ wd ∧ wd ≤ 1099511627776) :
    Calls Try.prog 33 #[.pointer (some ⟨T, 0, none⟩), .slice a n c] w fun e w' => (∃ v' ws', e = .returned v' ∧ MkAt w' v' ws' g ∧ ws'.Sublist ws ∧ ∀ x : Nat, x ∈ ws' ↔ x ∈ ws ∧ loW (m - 1 - at_) ah wd ≤ x ∧ x < hiW (m - 1 - at_) ah wd) ∧ Below w.heap.size w w' := by
  have HM := hidden hM
  have HN := hidden hn
  have HS := hidden hs
  obtain ⟨t0, t1, t2, t3, t4, t5, t6, t7, t8⟩ := h.c.cells
  obtain ⟨bh, hbh⟩ : ∃ bh : Int, (m : Int) - 1 - at_ = bh := ⟨_, rfl⟩
  have HBH := hidden hbh
  have HT := hidden h.c
  clear hM hs hn h t0 t5 t6 t7 t8
  go_enter Try.func33, Try.ntmps33
  go_wp2_with fail
  go_quiet (fail)
  have HT2 := hidden (HT.out.drewN nq)
  have HM2 := hidden (HM.out.later (below_drewN (Below.refl _ w) nq))
  have HB2 := hidden (below_drewN (Below.refl w.heap.size w) nq)
  clear HT HM t1 t2 t3 t4
  generalize World.drewN w nq = W2 at HT2 HM2 HB2 ⊢
  obtain ⟨t0, t1, t2, t3, t4, t5, t6, t7, t8⟩ := HT2.out.cells
  clear t0 t1 t4 t5 t6 t7 t8
  go_wp2_with fail
  clear nq
  go_quiet (fail)
  have HT3 := hidden (HT2.out.drewN nq)
  have HM3 := hidden (HM2.out.later (below_drewN (Below.refl _ W2) nq))
  have HB3 := hidden (below_drewN HB2.out nq)
  clear HT2 HM2 t2 t3 HB2
  generalize World.drewN W2 nq = W3 at HT3 HM3 HB3 ⊢
  obtain ⟨t0, t1, t2, t3, t4, t5, t6, t7, t8⟩ := HT3.out.cells
  clear t0 t1 t4 t5 t6 t7 t8
  go_wp2_with fail
  clear nq
  go_quiet (fail)
  have HM4 := hidden (HM3.out.later (below_drewN (Below.refl _ W3) nq))
  have HB4 := hidden (below_drewN HB3.out nq)
  clear HT3 HM3 t2 t3 HB3
  generalize World.drewN W3 nq = W4 at HM4 HB4 ⊢
  go_wp2_with fail
  have HLO := hidden (show loW bh ah wd ≤ hiW bh ah wd by
    unfold loW hiW
    have := Int.tdiv_le_tdiv (c := 64) (by decide) (show bh + (ah - wd) / 2 ≤ bh + (ah + wd) / 2 by omega)
    omega)
  have hlo : (bh + (ah - wd) / 2).tdiv 64 = loW bh ah wd := rfl
  rw [hlo]
  refine (bsearch_any a n c ws g (loW bh ah wd) W4 HM4.out HN.out HS.out hb).mono ?_
  rintro e w5 ⟨⟨k1, r1, hk1, rfl, p1, p2⟩, hb5⟩
  have HP1 := hidden p1
  have HP2 := hidden p2
  have HM5 := hidden (HM4.out.later hb5)
  have HB5 := hidden (HB4.out.trans (hb5.mono HB4.out.size))
  clear p1 p2 hb5 HM4 HB4 hlo
  have hbd : -2147483648 ≤ bh ∧ bh ≤ 2147483648 := by omega
  have HB2 := hidden (tdiv_bd (x := bh + (ah + wd) / 2) (K := 4611686018427387904) (by omega) (by omega))
  go_wp2_with fail
  have hhi : wrap64 ((bh + (ah + wd) / 2).tdiv 64 + 1) = hiW bh ah wd := by
    have := HB2.out
    unfold hiW wrap64; omega
  rw [hhi]
  refine (bsearch_any a n c ws g (hiW bh ah wd) w5 HM5.out HN.out HS.out hb).mono ?_
  rintro e w6 ⟨⟨k2, r2, hk2, rfl, p3, p4⟩, hb6⟩
  have hk12 : k1 ≤ k2 := Decidable.byContradiction fun hh => by
    obtain ⟨x, hx⟩ : ∃ x, ws[k2]? = some x := ⟨ws[k2]'(by rw [HN.out]; omega), List.getElem?_eq_getElem _⟩
    have a1 := HP1.out k2 x (by omega) hx
    have a2 := p4 k2 x (Nat.le_refl _) hx
    have a3 := HLO.out
    omega
  have HMEM := hidden (part_mem hk12 HP1.out HP2.out p3 p4)
  have HM6 := hidden (HM5.out.later hb6)
  have HB6 := hidden (HB5.out.trans (hb6.mono HB5.out.size))
  have HSUB := hidden (show ((ws.take k2).drop k1).Sublist ws from (List.drop_sublist _ _).trans (List.take_sublist _ _))
  clear p3 p4 hb6 HM5 HB5 hhi HP1 HP2 HB2
  have hnc : n ≤ c ∧ (a = none → c = 0) := by
    rcases HM6.out with ⟨e, ao, cap, e2, h0⟩ | ⟨b, o, cap, cur, fr, e2, h1, _⟩
    · cases e2; exact ⟨by omega, h0⟩
    · have := HN.out
      cases e2; exact ⟨by omega, fun e => by cases e⟩
  obtain ⟨hnc, hnone⟩ := hnc
  cases a with
  | none =>
    obtain rfl := hnone rfl
    obtain rfl : n = 0 := by omega
    obtain rfl : k1 = 0 := by omega
    obtain rfl : k2 = 0 := by omega
    go_wp2_with fail
    go_ret
    exact ⟨⟨_, _, rfl, Or.inl ⟨rfl, none, 0, rfl, fun _ => rfl⟩, HSUB.out, by rw [HBH.out]; exact HMEM.out⟩, HB6.out⟩
  | some ad =>
    clear hnone
    by_cases hn0 : n = 0
    · subst hn0
      obtain rfl : k1 = 0 := by omega
      obtain rfl : k2 = 0 := by omega
      by_cases hck : c = 0
      · subst hck
        go_wp2_with fail
        go_ret
        exact ⟨⟨_, _, rfl, Or.inl ⟨rfl, _, _, rfl, fun e => by cases e⟩, HSUB.out, by rw [HBH.out]; exact HMEM.out⟩, HB6.out⟩
      · go_wp2_with fail
        go_ret
        exact ⟨⟨_, _, rfl, Or.inl ⟨rfl, _, _, rfl, fun e => by cases e⟩, HSUB.out, by rw [HBH.out]; exact HMEM.out⟩, HB6.out⟩
    · obtain ⟨b, o, rfl⟩ : ∃ b o, ad = ⟨b, o, none⟩ := by
        rcases HM6.out with ⟨e, ao, cap, e2, h0⟩ | ⟨b, o, cap, cur, fr, e2, h1, _⟩
        · cases e2; exact absurd rfl hn0
        · have := HN.out
          cases e2; exact ⟨b, o, rfl⟩
      by_cases hck : c = k1
      · subst hck
        go_wp2_with fail
        go_ret
        exact ⟨⟨_, _, rfl, HM6.out.part HN.out hk12 hk2 _ (by omega) _ (by omega), HSUB.out, by rw [HBH.out]; exact HMEM.out⟩, HB6.out⟩
      · go_wp2_with fail
        go_ret
        exact ⟨⟨_, _, rfl, HM6.out.part HN.out hk12 hk2 _ (Nat.le_refl _) _ (fun _ => rfl), HSUB.out, by rw [HBH.out]; exact HMEM.out⟩, HB6.out⟩

end Go.Proofs.Ytdjdiaadflggfaa
