
/-
  How the program's table stands while it goes to a rest of the other row, and back: its stops, what was turned since the last one; no conditions but those that each states.
-/
import Derived.Test.YtmbalnjobcgpkaaBAdd
import Derived.Lib.SliceRun
namespace Go.Proofs.Ytmbalnjobcgpkaa
open Go.RowKit Go.Proofs.Ytmbalnjobcgpkaa.Ln Go.Proofs.Ytmbalnjobcgpkaa.Ol

theorem bisnan_any (z : Int) (w : World) : Calls Try.prog 95 #[.int .i64 z] w fun e w' => e = .returned (.bool false) ∧ w' = w := by
  have h : (z != z) = false := by simp
  go_enter Try.func95, Try.ntmps95
  go_wp2_with fail
  go_ret
  exact ⟨rfl, rfl⟩
/-- how two numbers stand -/
def cmpI (a b : Int) : Int := if a < b then -1 else if b < a then 1 else 0
theorem bcompare_any (a b : Int) (w : World) : Calls Try.prog 94 #[.int .i64 a, .int .i64 b] w fun e w' => e = .returned (.int .i64 (cmpI a b)) ∧ w' = w := by
  go_enter Try.func94, Try.ntmps94
  go_wp2_with fail
  refine (bisnan_any a w).mono ?_
  rintro e w' ⟨rfl, hw⟩
  subst w'
  go_wp2_with fail
  refine (bisnan_any b w).mono ?_
  rintro e w' ⟨rfl, hw⟩
  subst w'
  by_cases h1 : a < b
  · have HC := hidden (show cmpI a b = -1 from if_pos h1)
    have hd : decide (a < b) = true := by simpa using h1
    go_wp2_with fail
    go_ret
    exact ⟨by rw [HC.out]; rfl, rfl⟩
  · have hd : decide (a < b) = false := by simpa using h1
    by_cases h2 : b < a
    · have HC := hidden (show cmpI a b = 1 by unfold cmpI; rw [if_neg h1, if_pos h2])
      have hd2 : decide (a > b) = true := by simpa using h2
      have hd3 : decide (b < a) = true := by simpa using h2
      go_wp2_with fail
      go_ret
      exact ⟨by rw [HC.out]; rfl, rfl⟩
    · have HC := hidden (show cmpI a b = 0 by unfold cmpI; rw [if_neg h1, if_neg h2])
      have hd2 : decide (a > b) = false := by simpa using h2
      have hd3 : decide (b < a) = false := by simpa using h2
      go_wp2_with fail
      go_ret
      exact ⟨by rw [HC.out]; rfl, rfl⟩
theorem bagainst_any (x : Int) (m : Nat) (z : Int) (w : World) : Calls Try.prog 91 #[.agg #[.int .i64 x, .int .u64 m], .int .i64 z] w fun e w' => e = .returned (.int .i64 (cmpI x z)) ∧ Below w.heap.size w w' := by
  have HB := hidden (bel_alloc (Below.refl w.heap.size w) (.cells #[.int .i64 x, .int .u64 m] 113))
  go_enter Try.func91, Try.ntmps91
  go_wp2_with fail
  refine (bcompare_any x z _).mono ?_
  rintro e w' ⟨rfl, hw⟩
  have hb : Below w.heap.size w w' := by rw [hw]; exact HB.out
  have HB2 := hidden hb
  clear hw hb HB
  go_wp2_with fail
  go_ret
  exact ⟨rfl, HB2.out⟩

theorem sorted_at {ws : List Nat} (hs : ws.Pairwise (· < ·)) {t m x y : Nat} (h1 : t ≤ m) (hx : ws[m]? = some x) (hy : ws[t]? = some y) : y ≤ x := by
  obtain ⟨l1, e1⟩ := List.getElem?_eq_some_iff.1 hx
  obtain ⟨l2, e2⟩ := List.getElem?_eq_some_iff.1 hy
  by_cases e : t = m
  · subst e; omega
  · have := List.pairwise_iff_getElem.1 hs t m l2 l1 (by omega)
    omega

set_option maxHeartbeats 2000000 in
theorem bsearch_any (a : Option Addr) (n c : Nat) (ws : List Nat) (g : Bs) (z : Int) (w : World) (hM : MkAt w (.slice a n c) ws g) (hn : ws.length = n) (hs : ws.Pairwise (· < ·)) (hb : n ≤ 17179869184) :
    Calls Try.prog 90 #[.slice a n c, .int .i64 z, .func (.func 91) #[] #[]] w fun e w' => (∃ k : Nat, ∃ b, k ≤ n ∧ e = .returned (.tuple #[.int .i64 k, .bool b]) ∧ (∀ t x, t < k → ws[t]? = some x → (x : Int) < z) ∧ (∀ t x, k ≤ t → ws[t]? = some x → z ≤ (x : Int))) ∧ Below w.heap.size w w' := by
  have HM := hidden hM
  have HN := hidden hn
  have HS := hidden hs
  clear hM hs hn
  go_enter Try.func90, Try.ntmps90
  go_wp2_with fail
  go_loopw [9, 10] (fun i j wr => ∃ p q : Nat, p ≤ q ∧ q ≤ n ∧ i = .int .i64 p ∧ j = .int .i64 q ∧ Hid ((∀ t x, t < p → ws[t]? = some x → (x : Int) < z) ∧ (∀ t x, q ≤ t → ws[t]? = some x → z ≤ (x : Int)) ∧ Below w.heap.size w wr)) (fun i j _ => (intOf j).toNat - (intOf i).toNat)
  case atStart => exact ⟨0, n, Nat.zero_le _, Nat.le_refl _, rfl, rfl, (fun t x h => absurd h (Nat.not_lt_zero _)), (fun t x h1 h2 => by have := (List.getElem?_eq_some_iff.1 h2).1; rw [HN.out] at this; omega), Below.refl _ _⟩
  case round =>
    obtain ⟨p, q, hpq, hq, rfl, rfl, hst⟩ := hrel
    by_cases hlt : p < q
    · obtain ⟨m, hm⟩ : ∃ m, (p + q) / 2 = m := ⟨_, rfl⟩
      have hm1 : p ≤ m := by omega
      have hm2 : m < q := by omega
      have hmI : ((p : Int) + q) / 2 = m := by omega
      obtain ⟨x, hx⟩ : ∃ x, ws[m]? = some x := ⟨ws[m]'(by rw [HN.out]; omega), List.getElem?_eq_getElem _⟩
      obtain ⟨s1, s2, s3⟩ := hst.out
      obtain ⟨b, o, rfl, hnc, hb, m1, m2⟩ := (HM.out.later s3).open_ HN.out hx
      have HX := hidden hx
      have HS3 := hidden s3
      have HS1 := hidden s1
      have HS2 := hidden s2
      clear hst s1 s2 s3 hx hm
      go_wp2_with fail
      refine (bagainst_any x _ z _).mono ?_
      rintro e w2 ⟨rfl, hb2⟩
      have HB2 := hidden (HS3.out.trans (hb2.mono HS3.out.size))
      clear hb2 HS3 m1 m2
      by_cases hxz : (x : Int) < z
      · have HS4 := hidden (show ∀ t y, t < m + 1 → ws[t]? = some y → (y : Int) < z from fun t y h1 h2 => by
          have := sorted_at HS.out (show t ≤ m by omega) HX.out h2
          omega)
        rw [show cmpI x z = -1 from if_pos hxz]
        go_wp2_with fail
        go_roundw
        case rel => exact ⟨m + 1, q, by omega, by omega, by go_num, rfl, HS4.out, HS2.out, HB2.out⟩
        case measure => simp [intOf]; omega
      · have HS4 := hidden (show ∀ t y, m ≤ t → ws[t]? = some y → z ≤ (y : Int) from fun t y h1 h2 => by
          have := sorted_at HS.out h1 h2 HX.out
          omega)
        obtain ⟨d, hd⟩ : ∃ d, cmpI x z = d := ⟨_, rfl⟩
        have hd0 : 0 ≤ d := by rw [← hd]; unfold cmpI; rw [if_neg hxz]; split <;> omega
        rw [hd]
        clear hd
        have hdd : decide (d < 0) = false := by simp; omega
        go_wp2_with fail
        go_roundw
        case rel => exact ⟨p, m, by omega, by omega, rfl, rfl, HS1.out, HS4.out, HB2.out⟩
        case measure => simp [intOf]; omega
    · obtain rfl : p = q := by omega
      obtain ⟨s1, s2, s3⟩ := hst.out
      have HS1 := hidden s1
      have HS2 := hidden s2
      have HS3 := hidden s3
      clear hst s1 s2
      by_cases hpn : p < n
      · obtain ⟨x, hx⟩ : ∃ x, ws[p]? = some x := ⟨ws[p]'(by rw [HN.out]; omega), List.getElem?_eq_getElem _⟩
        obtain ⟨b, o, rfl, hnc, hb, m1, m2⟩ := (HM.out.later s3).open_ HN.out hx
        clear s3 hx
        have hd : decide ((p : Int) < n) = true := by simpa using hpn
        go_wp2_with fail
        refine (bagainst_any x _ z _).mono ?_
        rintro e w2 ⟨rfl, hb2⟩
        have HB2 := hidden (HS3.out.trans (hb2.mono HS3.out.size))
        clear hb2 HS3 m1 m2
        go_wp2_with fail
        refine bodyPost_ret (v := .tuple #[.int .i64 p, .bool (cmpI x z == 0)]) (by simp [results, Try.results90, go_sem]) rfl ?_
        exact ⟨⟨p, _, by omega, rfl, HS1.out, HS2.out⟩, HB2.out⟩
      · have hd : decide ((p : Int) < n) = false := by simpa using hpn
        clear s3
        go_wp2_with fail
        refine bodyPost_ret (v := .tuple #[.int .i64 p, .bool false]) (by simp [results, Try.results90, go_sem]) rfl ?_
        exact ⟨⟨p, _, by omega, rfl, HS1.out, HS2.out⟩, HS3.out⟩

/-- a part of the marks -/
theorem MkAt.part {W : World} {b o n c : Nat} {ws : List Nat} {g : Bs} (h : MkAt W (.slice (some ⟨b, o, none⟩) n c) ws g) (hn : ws.length = n) {i j : Nat} (hij : i ≤ j) (hj : j ≤ n) (c' : Nat) (hc : c - i ≤ c') (o' : Nat) (ho : i < j → o' = o + i * 2) : MkAt W (.slice (some ⟨b, o', none⟩) (j - i) c') ((ws.take j).drop i) g := by
  have hl : ((ws.take j).drop i).length = j - i := by rw [List.length_drop, List.length_take, hn]; omega
  by_cases h0 : j - i = 0
  · rw [h0, List.eq_nil_of_length_eq_zero (hl.trans h0)]; exact Or.inl ⟨rfl, _, _, rfl, fun e => by cases e⟩
  · obtain rfl := ho (by omega)
    rcases h with ⟨rfl, _⟩ | ⟨b', o', cap, cur, fr, e, h1, h2, h3⟩
    · simp at hn; omega
    · cases e
      refine Or.inr ⟨b, o + i * 2, c', cur, fr, by rw [hl], by rw [hl]; omega, h2, fun t x hx => ?_⟩
      rw [List.getElem?_drop, List.getElem?_take] at hx
      split at hx
      · have := h3 (i + t) x hx
        rw [show o + i * 2 + t * 2 = o + (i + t) * 2 by omega]
        exact this
      · cases hx
theorem part_mem {ws : List Nat} {k1 k2 : Nat} {lo hi : Int} (_hk : k1 ≤ k2) (h1 : ∀ t x, t < k1 → ws[t]? = some x → (x : Int) < lo) (h2 : ∀ t x, k1 ≤ t → ws[t]? = some x → lo ≤ (x : Int)) (h3 : ∀ t x, t < k2 → ws[t]? = some x → (x : Int) < hi) (h4 : ∀ t x, k2 ≤ t → ws[t]? = some x → hi ≤ (x : Int)) (x : Nat) : x ∈ (ws.take k2).drop k1 ↔ x ∈ ws ∧ lo ≤ x ∧ x < hi := by
  constructor
  · intro h
    obtain ⟨t, ht⟩ := List.mem_iff_getElem?.1 h
    rw [List.getElem?_drop, List.getElem?_take] at ht
    split at ht
    · exact ⟨List.mem_of_getElem? ht, h2 _ _ (by omega) ht, h3 _ _ (by omega) ht⟩
    · cases ht
  · rintro ⟨h, a, b⟩
    obtain ⟨t, ht⟩ := List.mem_iff_getElem?.1 h
    have q1 : k1 ≤ t := Decidable.byContradiction fun hh => by have := h1 t x (by omega) ht; omega
    have q2 : t < k2 := Decidable.byContradiction fun hh => by have := h4 t x (by omega) ht; omega
    refine List.mem_iff_getElem?.2 ⟨t - k1, ?_⟩
    rw [List.getElem?_drop, List.getElem?_take, show k1 + (t - k1) = t by omega, if_pos q2, ht]
theorem tdiv_bd {x K : Int} (h1 : -K ≤ x) (h2 : x ≤ K) : -K ≤ x.tdiv 64 ∧ x.tdiv 64 ≤ K := by
  by_cases h : 0 ≤ x
  · rw [Int.tdiv_eq_ediv_of_nonneg h]; omega
  · obtain ⟨y, rfl⟩ : ∃ y, x = -y := ⟨-x, by omega⟩
    rw [Int.neg_tdiv, Int.tdiv_eq_ediv_of_nonneg (by omega)]; omega
/-- the words between which the marks may be of use -/
def loW (bh ah wd : Int) : Int := Int.tdiv (bh + (ah - wd) / 2) 64
def hiW (bh ah wd : Int) : Int := Int.tdiv (bh + (ah + wd) / 2) 64 + 1
set_option maxHeartbeats 2000000 in
theorem bnear_any {B T : Nat} {ah wd mo : Int} {v0 : Value} {a1 : Option Addr} {m c1 : Nat} {at_ : Nat} {vI vT vS : Value} {V : Bs} {N : Nat} {L : List Tn} {S : List Sp} {w : World} (h : Tb B T ah wd mo v0 (.slice a1 m c1) at_ vI vT vS V N L S w) (a : Option Addr) (n c : Nat) (ws : List Nat) (g : Bs) (hM : MkAt w (.slice a n c) ws g) (hn : ws.length = n) (hs : ws.Pairwise (· < ·)) (hb : n ≤ 17179869184)
    (hat : at_ < m) (hm : m ≤ 4398046511104) (hah : -4398046511104 ≤ ah ∧ ah ≤ 4398046511104) (hwd : 0 ≤ wd ∧ wd ≤ 4503599627370496) :
    Calls Try.prog 84 #[.pointer (some ⟨T, 0, none⟩), .slice a n c] w fun e w' => (∃ v' ws', e = .returned v' ∧ MkAt w' v' ws' g ∧ ws'.Sublist ws ∧ ∀ x : Nat, x ∈ ws' ↔ x ∈ ws ∧ loW (m - 1 - at_) ah wd ≤ x ∧ x < hiW (m - 1 - at_) ah wd) ∧ Below w.heap.size w w' := by
  have HM := hidden hM
  have HN := hidden hn
  have HS := hidden hs
  obtain ⟨t0, t1, t2, t3, t4, t5, t6, t7, t8⟩ := h.c.cells
  obtain ⟨bh, hbh⟩ : ∃ bh : Int, (m : Int) - 1 - at_ = bh := ⟨_, rfl⟩
  have HBH := hidden hbh
  have HT := hidden h.c
  clear hM hs hn h t0 t5 t6 t7 t8
  go_enter Try.func84, Try.ntmps84
  go_wp2_with fail
  go_quiet (fail)
  have HT2 := hidden (HT.out.drewN nq)
  have HM2 := hidden (HM.out.later (below_drewN (Below.refl _ w) nq))
  have HB2 := hidden (below_drewN (Below.refl w.heap.size w) nq)
  clear HT HM t1 t2 t3 t4
  generalize World.drewN w nq = W2 at HT2 HM2 HB2 ⊢
  obtain ⟨t0, t1, t2, t3, t4, t5, t6, t7, t8⟩ := HT2.out.cells
  clear t0 t1 t4 t5 t6 t7 t8
  go_wp2_with fail
  clear nq
  go_quiet (fail)
  have HT3 := hidden (HT2.out.drewN nq)
  have HM3 := hidden (HM2.out.later (below_drewN (Below.refl _ W2) nq))
  have HB3 := hidden (below_drewN HB2.out nq)
  clear HT2 HM2 t2 t3 HB2
  generalize World.drewN W2 nq = W3 at HT3 HM3 HB3 ⊢
  obtain ⟨t0, t1, t2, t3, t4, t5, t6, t7, t8⟩ := HT3.out.cells
  clear t0 t1 t4 t5 t6 t7 t8
  go_wp2_with fail
  clear nq
  go_quiet (fail)
  have HM4 := hidden (HM3.out.later (below_drewN (Below.refl _ W3) nq))
  have HB4 := hidden (below_drewN HB3.out nq)
  clear HT3 HM3 t2 t3 HB3
  generalize World.drewN W3 nq = W4 at HM4 HB4 ⊢
  go_wp2_with fail
  have HLO := hidden (show loW bh ah wd ≤ hiW bh ah wd by
    unfold loW hiW
    have := Int.tdiv_le_tdiv (c := 64) (by decide) (show bh + (ah - wd) / 2 ≤ bh + (ah + wd) / 2 by omega)
    omega)
  have hlo : (bh + (ah - wd) / 2).tdiv 64 = loW bh ah wd := rfl
  rw [hlo]
  refine (bsearch_any a n c ws g (loW bh ah wd) W4 HM4.out HN.out HS.out hb).mono ?_
  rintro e w5 ⟨⟨k1, r1, hk1, rfl, p1, p2⟩, hb5⟩
  have HP1 := hidden p1
  have HP2 := hidden p2
  have HM5 := hidden (HM4.out.later hb5)
  have HB5 := hidden (HB4.out.trans (hb5.mono HB4.out.size))
  clear p1 p2 hb5 HM4 HB4 hlo
  have hbd : -8796093022208 ≤ bh ∧ bh ≤ 8796093022208 := by omega
  have HB2 := hidden (tdiv_bd (x := bh + (ah + wd) / 2) (K := 4611686018427387904) (by omega) (by omega))
  go_wp2_with fail
  have hhi : wrap64 ((bh + (ah + wd) / 2).tdiv 64 + 1) = hiW bh ah wd := by
    have := HB2.out
    unfold hiW wrap64; omega
  rw [hhi]
  refine (bsearch_any a n c ws g (hiW bh ah wd) w5 HM5.out HN.out HS.out hb).mono ?_
  rintro e w6 ⟨⟨k2, r2, hk2, rfl, p3, p4⟩, hb6⟩
  have hk12 : k1 ≤ k2 := Decidable.byContradiction fun hh => by
    obtain ⟨x, hx⟩ : ∃ x, ws[k2]? = some x := ⟨ws[k2]'(by rw [HN.out]; omega), List.getElem?_eq_getElem _⟩
    have a1 := HP1.out k2 x (by omega) hx
    have a2 := p4 k2 x (Nat.le_refl _) hx
    have a3 := HLO.out
    omega
  have HMEM := hidden (part_mem hk12 HP1.out HP2.out p3 p4)
  have HM6 := hidden (HM5.out.later hb6)
  have HB6 := hidden (HB5.out.trans (hb6.mono HB5.out.size))
  have HSUB := hidden (show ((ws.take k2).drop k1).Sublist ws from (List.drop_sublist _ _).trans (List.take_sublist _ _))
  clear p3 p4 hb6 HM5 HB5 hhi HP1 HP2 HB2
  have hnc : n ≤ c ∧ (a = none → c = 0) := by
    rcases HM6.out with ⟨e, ao, cap, e2, h0⟩ | ⟨b, o, cap, cur, fr, e2, h1, _⟩
    · cases e2; exact ⟨by omega, h0⟩
    · have := HN.out
      cases e2; exact ⟨by omega, fun e => by cases e⟩
  obtain ⟨hnc, hnone⟩ := hnc
  cases a with
  | none =>
    obtain rfl := hnone rfl
    obtain rfl : n = 0 := by omega
    obtain rfl : k1 = 0 := by omega
    obtain rfl : k2 = 0 := by omega
    go_wp2_with fail
    go_ret
    exact ⟨⟨_, _, rfl, Or.inl ⟨rfl, none, 0, rfl, fun _ => rfl⟩, HSUB.out, by rw [HBH.out]; exact HMEM.out⟩, HB6.out⟩
  | some ad =>
    clear hnone
    by_cases hn0 : n = 0
    · subst hn0
      obtain rfl : k1 = 0 := by omega
      obtain rfl : k2 = 0 := by omega
      by_cases hck : c = 0
      · subst hck
        go_wp2_with fail
        go_ret
        exact ⟨⟨_, _, rfl, Or.inl ⟨rfl, _, _, rfl, fun e => by cases e⟩, HSUB.out, by rw [HBH.out]; exact HMEM.out⟩, HB6.out⟩
      · go_wp2_with fail
        go_ret
        exact ⟨⟨_, _, rfl, Or.inl ⟨rfl, _, _, rfl, fun e => by cases e⟩, HSUB.out, by rw [HBH.out]; exact HMEM.out⟩, HB6.out⟩
    · obtain ⟨b, o, rfl⟩ : ∃ b o, ad = ⟨b, o, none⟩ := by
        rcases HM6.out with ⟨e, ao, cap, e2, h0⟩ | ⟨b, o, cap, cur, fr, e2, h1, _⟩
        · cases e2; exact absurd rfl hn0
        · have := HN.out
          cases e2; exact ⟨b, o, rfl⟩
      by_cases hck : c = k1
      · subst hck
        go_wp2_with fail
        go_ret
        exact ⟨⟨_, _, rfl, HM6.out.part HN.out hk12 hk2 _ (by omega) _ (by omega), HSUB.out, by rw [HBH.out]; exact HMEM.out⟩, HB6.out⟩
      · go_wp2_with fail
        go_ret
        exact ⟨⟨_, _, rfl, HM6.out.part HN.out hk12 hk2 _ (Nat.le_refl _) _ (fun _ => rfl), HSUB.out, by rw [HBH.out]; exact HMEM.out⟩, HB6.out⟩

end Go.Proofs.Ytmbalnjobcgpkaa

namespace Go.Proofs.Ytmbalnjobcgpkaa
open Go.RowKit Go.Proofs.Ytmbalnjobcgpkaa.Ln Go.Proofs.Ytmbalnjobcgpkaa.Ol

/-- an append of many words to a row of one's own -/
theorem run_appw (w : World) (ty : TypeId) (B : Nat) (mv u : Value) (n m : Nat) (xs ys : List Value) (hm : w.ownsRow B 93 1 mv n xs) (hu : w.ownsRow B 93 1 u m ys) (hone : ∀ z ∈ ys, z.oneCell' = true) (hl : n + m < 4398046511104) (hB : B ≤ w.heap.size) :
    ∃ v' w', (Builtin.append_ #[84, 84] ty #[mv, u]).run Try.prog w = .ok v' w' ∧ w'.ownsRow B 93 1 v' (n + m) (xs ++ ys) ∧ w.grownBy w' mv.ownBlock ∧ (v'.ownBlock = mv.ownBlock ∨ v'.ownBlock = some w.heap.size) := by
  obtain ⟨i0, hi, hz0, hz1, hz2⟩ := info_parts Try.infoU64
  rcases hu.2 with ⟨rfl, rfl⟩ | ⟨g, cap, cur, rfl, hb, hh, hn, hmx, hs, ht⟩
  · have hy : ys = [] := List.eq_nil_of_length_eq_zero (by have := hu.1; omega)
    subst hy
    exact ⟨mv, w, run_append_owned_none (P := Try.prog) (w := w) B 84 ty 93 i0 1 Try.underlying84 hi mv _ _ hm, by rw [List.append_nil]; exact hm, ⟨rfl, rfl, rfl, Nat.le_refl _, fun _ _ _ => rfl⟩, Or.inl rfl⟩
  · obtain ⟨v', w', hr, h2, h3, _, h5⟩ := run_append_own_at (P := Try.prog) w B 84 ty 93 i0 (.int .u64 0) 1 8 Try.underlying84 hi hz0 hz1 hz2 rfl (by decide) mv n xs hm ⟨g, 0, none⟩ m cap ys (by have := hu.1; omega) (fun j u hj => by have := hu.cells (g := g) rfl j u hj; exact this) hone (by unfold maxLen; omega) (by omega) hB
    exact ⟨v', w', hr, h2, h3, h5⟩
theorem wp_appw {o : Oper} {a : Act} {w : World} {K : Act → World → Prop} {Q : Exit → Act → World → Prop} (s x : Operand)
    (hop : o.op = Op.call { callee := Callee.builtin Builtin.append, args := #[s, x], argTypes := #[84, 84] }) (B : Nat) (mv u : Value) (n m : Nat) (xs ys : List Value) (hs : a.eval s = mv) (hx : a.eval x = u) (hm : w.ownsRow B 93 1 mv n xs) (hu : w.ownsRow B 93 1 u m ys) (hone : ∀ z ∈ ys, z.oneCell' = true) (hl : n + m < 4398046511104) (hB : B ≤ w.heap.size)
    (hK : ∀ v' w', w'.ownsRow B 93 1 v' (n + m) (xs ++ ys) → w.grownBy w' mv.ownBlock → (v'.ownBlock = mv.ownBlock ∨ v'.ownBlock = some w.heap.size) → K (a.put o.dst v') w') : o.wp Try.prog a w K Q := by
  obtain ⟨v', w', hr, h2, h3, h4⟩ := run_appw w o.type B mv u n m xs ys hm hu hone hl hB
  unfold Oper.wp execOp
  simp only [hop, resolve, invoke, builtin, Sem.run_bind, Sem.run_pure, Result.andThen_ok, List.map_toArray, List.map_cons, List.map_nil, hs, hx, hr]
  exact hK v' w' h2 h3 h4
theorem wpList_appw {ops : Array Oper} {o : Oper} {a : Act} {w : World} {rest : List Oper} {Q : Exit → Act → World → Prop} (hg : o.guard = none) (s x : Operand)
    (hop : o.op = Op.call { callee := Callee.builtin Builtin.append, args := #[s, x], argTypes := #[84, 84] }) (B : Nat) (mv u : Value) (n m : Nat) (xs ys : List Value) (hs : a.eval s = mv) (hx : a.eval x = u) (hm : w.ownsRow B 93 1 mv n xs) (hu : w.ownsRow B 93 1 u m ys) (hone : ∀ z ∈ ys, z.oneCell' = true) (hl : n + m < 4398046511104) (hB : B ≤ w.heap.size)
    (hK : ∀ v' w', w'.ownsRow B 93 1 v' (n + m) (xs ++ ys) → w.grownBy w' mv.ownBlock → (v'.ownBlock = mv.ownBlock ∨ v'.ownBlock = some w.heap.size) → wpList Try.prog ops Q rest (a.put o.dst v') w') : wpList Try.prog ops Q (o :: rest) a w :=
  BigFrame.wpList_want (by simp [Region.wanted, hg]) fun _ hK2 => wp_appw s x hop B mv u n m xs ys hs hx hm hu hone hl hB fun v' w' h2 h3 h4 => hK2 _ _ (hK v' w' h2 h3 h4)
theorem step_appw {ops : Array Oper} {o : Oper} {a : Act} {w : World} {K : Act → World → Prop} {Q : Exit → Act → World → Prop} {E : Prop} (hg : o.guard = none) (s x : Operand)
    (hop : o.op = Op.call { callee := Callee.builtin Builtin.append, args := #[s, x], argTypes := #[84, 84] }) (B : Nat) (mv u : Value) (n m : Nat) (xs ys : List Value) (hs : a.eval s = mv) (hx : a.eval x = u) (hm : w.ownsRow B 93 1 mv n xs) (hu : w.ownsRow B 93 1 u m ys) (hone : ∀ z ∈ ys, z.oneCell' = true) (hl : n + m < 4398046511104) (hB : B ≤ w.heap.size)
    (hK : ∀ v' w', w'.ownsRow B 93 1 v' (n + m) (xs ++ ys) → w.grownBy w' mv.ownBlock → (v'.ownBlock = mv.ownBlock ∨ v'.ownBlock = some w.heap.size) → K (a.put o.dst v') w') : if Region.wanted o (yielded ops a.tmps) = true then Oper.wp Try.prog o a w K Q else E := by
  have hw : Region.wanted o (yielded ops a.tmps) = true := by simp [Region.wanted, hg]
  rw [if_pos hw]
  exact wp_appw s x hop B mv u n m xs ys hs hx hm hu hone hl hB hK
theorem wcells_one (V : Bs) (N : Nat) : ∀ z ∈ wcells V N, z.oneCell' = true := by
  intro z hz
  obtain ⟨j, _, rfl⟩ := List.mem_map.1 hz
  rfl

set_option maxHeartbeats 1000000 in
theorem bclone_any (B : Nat) (v : Value) (V : Bs) (N : Nat) (w : World) (h : w.ownsRow B 93 1 v N (wcells V N)) (hN : N ≤ 17179869184) (hB : B ≤ w.heap.size) :
    Calls Try.prog 82 #[v] w fun e w' => (∃ v', e = .returned v' ∧ w'.ownsRow B 93 1 v' N (wcells V N) ∧ ∀ g, v'.ownBlock = some g → w.heap.size ≤ g) ∧ Below w.heap.size w w' := by
  have HO := hidden h
  have q22 : ∀ (w : World) (a : Option Addr) (n c n' c' : Nat), (binOp .eql 84 (.slice a n c) (.slice none n' c')).run Try.prog w = .ok (.bool a.isNone) w := fun w a n c n' c' => Lib.run_eql_slice_nil w _ _ a n c n' c' Try.underlying84
  rcases h.2 with ⟨rfl, rfl⟩ | ⟨g, cap, cur, rfl, _⟩
  · clear h
    go_enter Try.func82, Try.ntmps82
    go_wp2_with fail
    go_ret
    exact ⟨⟨_, rfl, HO.out, fun g e => by cases e⟩, Below.refl _ _⟩
  · clear h
    go_enter Try.func82, Try.ntmps82
    go_wp2_with (at_builtin; go_must (refine wpList_appw rfl (.tmp 5) (.tmp 6) rfl B (.slice (some ⟨w.heap.size, 0, none⟩) 0 0) (.slice (some ⟨g, 0, none⟩) N cap) 0 N [] (wcells V N) rfl rfl (World.ownsRow_made w #[] 0 hB (by decide) (by simp)) (HO.out.alloc _) (wcells_one V N) (by omega) (by simp; omega) ?_; intro v9 w9 hown9 hg9 hl9))
    rw [Nat.zero_add, List.nil_append] at hown9
    have HOW := hidden hown9
    have HG := hidden hg9
    have HL := hidden hl9
    clear hown9 hg9 hl9
    go_wp2_with fail
    go_ret
    refine ⟨⟨v9, rfl, HOW.out, fun k hk => ?_⟩, ?_⟩
    · rcases HL.out with hl | hl
      · rw [hk] at hl; cases hl; exact Nat.le_refl _
      · rw [hk] at hl; cases hl; simp
    · refine (bel_alloc (Below.refl w.heap.size w) (.cells #[] 93)).trans ⟨HG.out.os, HG.out.tape, HG.out.output, ?_, fun k hk => HG.out.block k (by simp; omega) (fun e => by simp [Value.ownBlock] at e; omega)⟩
      exact HG.out.size

end Go.Proofs.Ytmbalnjobcgpkaa

namespace Go.Proofs.Ytmbalnjobcgpkaa
open Go.RowKit Go.Proofs.Ytmbalnjobcgpkaa.Ln Go.Proofs.Ytmbalnjobcgpkaa.Ol

/-- what is fixed: where the table lies, its numbers, the sorts and their marks, the bits at each rest -/
structure Cx where
  B : Nat
  T : Nat
  ah : Int
  wd : Int
  mo : Int
  v0 : Value
  a1 : Option Addr
  c1 : Nat
  K : Nat
  m : Nat
  Nb : Nat
  srt : Nat → Nat
  vm : Nat → Value
  wsf : Nat → List Nat
  gf : Nat → Bs
  D : Nat → Bs
  crf : Nat → Bs
/-- the marks of one line of the other row, as far as they may be of use -/
def Cx.gb (c : Cx) (at_ : Nat) : Bs := fun p => c.gf (c.srt at_) p && decide (loW (c.m - 1 - at_) c.ah c.wd ≤ (p / 64 : Nat) ∧ ((p / 64 : Nat) : Int) < hiW (c.m - 1 - at_) c.ah c.wd)
structure Good (c : Cx) : Prop where
  m : c.m ≤ 4294967296
  nb : c.Nb ≤ 17179869184
  ah : -4398046511104 ≤ c.ah ∧ c.ah ≤ 4398046511104
  wd : 0 ≤ c.wd ∧ c.wd ≤ 4503599627370496
  mo : 0 ≤ c.mo ∧ c.mo ≤ 68719476736
  srt : ∀ j, j < c.m → c.srt j < c.K
  rp : ∀ j, j < c.m → Rp (c.D (j + 1)) (c.gb j) (c.D j) (c.crf j)
  full : ∀ p, c.D c.m p = true
  up : ∀ s, s < c.K → (c.wsf s).Pairwise (· < ·) ∧ (∀ x ∈ c.wsf s, x < c.Nb) ∧ ∀ p, c.gf s p = true → p / 64 ∈ c.wsf s
/-- the sorts and the marks lie in memory -/
structure Env (c : Cx) (W : World) : Prop where
  top : W.ownsRow c.B 105 1 c.v0 c.K ((List.range c.K).map c.vm)
  srt : W.ownsRow c.B 3 1 (.slice c.a1 c.m c.c1) c.m ((List.range c.m).map fun j => Z (c.srt j))
  mks : ∀ s, s < c.K → MkAt W (c.vm s) (c.wsf s) (c.gf s)
theorem Env.kpt {c : Cx} {W W' : World} (h : Env c W) {c0 c1 c2 c3 c4 c5 c6 c7 c8 : Value} (hc : TbC W c.T c0 c1 c2 c3 c4 c5 c6 c7 c8) (hk : KpT c.B c.T W W') : Env c W' :=
  ⟨hk.row h.top (by decide) (own_notT hc h.top (by decide)), hk.row h.srt (by decide) (own_notT hc h.srt (by decide)), fun s hs => (h.mks s hs).kpt hc hk⟩
theorem Env.later {c : Cx} {W W' : World} (h : Env c W) (hb : Below W.heap.size W W') : Env c W' :=
  ⟨owns_later h.top hb, owns_later h.srt hb, fun s hs => (h.mks s hs).later hb⟩
/-- stops, the last one at a line s -/
structure StOk (c : Cx) (S : List Sp) (s : Nat) : Prop where
  each : ∀ (i : Nat) t, S[i]? = some t → i + t.1 ≤ c.m ∧ t.2.2.1 = c.D t.1 ∧ t.2.2.2 ≤ c.Nb
  down : ∀ (i : Nat) t u, S[i]? = some t → S[i + 1]? = some u → u.1 < t.1
  first : ∃ t, S[0]? = some t ∧ t.1 = c.m
  last : ∃ t, S[S.length - 1]? = some t ∧ t.1 = s
theorem StOk.pos {c : Cx} {S : List Sp} {s : Nat} (h : StOk c S s) : 0 < S.length := by
  obtain ⟨t, h1, _⟩ := h.first
  exact (List.getElem?_eq_some_iff.1 h1).1
theorem StOk.len {c : Cx} {S : List Sp} {s : Nat} (h : StOk c S s) : S.length + s ≤ c.m + 1 := by
  obtain ⟨t, h1, h2⟩ := h.last
  have := (h.each _ t h1).1
  have := h.pos
  omega
theorem StOk.more {c : Cx} {S : List Sp} {s : Nat} (h : StOk c S s) {t : Sp} (ht : t.1 < s) (h1 : t.2.2.1 = c.D t.1) (h2 : t.2.2.2 ≤ c.Nb) : StOk c (S ++ [t]) t.1 := by
  have hp := h.pos
  have hl := h.len
  have split : ∀ (i : Nat) x, (S ++ [t])[i]? = some x → S[i]? = some x ∧ i < S.length ∨ i = S.length ∧ x = t := fun i x hx => by
    by_cases hi : i < S.length
    · rw [List.getElem?_append_left hi] at hx; exact Or.inl ⟨hx, hi⟩
    · rw [List.getElem?_append_right (by omega)] at hx
      obtain ⟨hlt, e⟩ := List.getElem?_eq_some_iff.1 hx
      simp at hlt
      have : i = S.length := by omega
      subst this
      simp at e
      exact Or.inr ⟨rfl, e.symm⟩
  refine ⟨fun i x hx => ?_, fun i x y hx hy => ?_, ?_, ⟨t, ?_, rfl⟩⟩
  · rcases split i x hx with ⟨hx, _⟩ | ⟨rfl, rfl⟩
    · exact h.each i x hx
    · exact ⟨by omega, h1, h2⟩
  · rcases split i x hx with ⟨hx2, hi⟩ | ⟨rfl, rfl⟩
    · rcases split (i + 1) y hy with ⟨hy2, _⟩ | ⟨hi2, rfl⟩
      · exact h.down i x y hx2 hy2
      · obtain ⟨z, h3, h4⟩ := h.last
        rw [show S.length - 1 = i by omega, hx2] at h3
        cases h3
        omega
    · rcases split (S.length + 1) y hy with ⟨_, hi⟩ | ⟨hi, _⟩ <;> omega
  · obtain ⟨z, h3, h4⟩ := h.first
    exact ⟨z, by rw [List.getElem?_append_left hp]; exact h3, h4⟩
  · rw [List.length_append, List.length_singleton, Nat.add_sub_cancel, List.getElem?_append_right (Nat.le_refl _)]; simp
/-- the last stop is taken away -/
theorem StOk.less {c : Cx} {S : List Sp} {s : Nat} (h : StOk c S s) (hs : s < c.m) : 2 ≤ S.length ∧ ∃ t, S[S.length - 2]? = some t ∧ s < t.1 ∧ t.1 ≤ c.m ∧ StOk c (S.take (S.length - 1)) t.1 := by
  have hp := h.pos
  obtain ⟨f, f1, f2⟩ := h.first
  obtain ⟨l, l1, l2⟩ := h.last
  have h2 : 2 ≤ S.length := Decidable.byContradiction fun hh => by
    rw [show S.length - 1 = 0 by omega, f1] at l1
    cases l1
    omega
  obtain ⟨t, ht⟩ : ∃ t, S[S.length - 2]? = some t := ⟨S[S.length - 2], List.getElem?_eq_getElem _⟩
  have hd := h.down (S.length - 2) t l ht (by rw [show S.length - 2 + 1 = S.length - 1 by omega]; exact l1)
  have tk : ∀ (i : Nat) x, (S.take (S.length - 1))[i]? = some x → S[i]? = some x := fun i x hx => by
    rw [List.getElem?_take] at hx
    split at hx
    · exact hx
    · cases hx
  refine ⟨h2, t, ht, by omega, by have := (h.each _ t ht).1; omega, fun i x hx => h.each i x (tk i x hx), fun i x y hx hy => h.down i x y (tk i x hx) (tk _ y hy), ⟨f, by rw [List.getElem?_take, if_pos (by omega)]; exact f1, f2⟩, ⟨t, ?_, rfl⟩⟩
  rw [List.length_take, Nat.min_eq_left (by omega), List.getElem?_take, if_pos (by omega), show S.length - 1 - 1 = S.length - 2 by omega]
  exact ht
/-- what was turned since the stop at s -/
inductive Lg (D : Nat → Bs) (s : Nat) : Nat → List Tn → Prop
  | base : Lg D s s []
  | step {at_ : Nat} {L X : List Tn} : Lg D s (at_ + 1) L → (∀ e ∈ X, e.1 = at_) → undo X (D at_) = D (at_ + 1) → Lg D s at_ (L ++ X)
theorem Lg.le {D : Nat → Bs} {s at_ : Nat} {L : List Tn} (h : Lg D s at_ L) : at_ ≤ s ∧ ∀ e ∈ L, at_ ≤ e.1 := by
  induction h with
  | base => exact ⟨Nat.le_refl _, by simp⟩
  | step _ hx _ ih =>
    refine ⟨by omega, fun e he => ?_⟩
    rcases List.mem_append.1 he with he | he
    · have := ih.2 e he; omega
    · have := hx e he; omega
theorem Lg.at_s {D : Nat → Bs} {s : Nat} {L : List Tn} (h : Lg D s s L) : L = [] := by
  cases h with
  | base => rfl
  | step h _ _ => have := h.le.1; omega
theorem Lg.inv {D : Nat → Bs} {s at_ : Nat} {L : List Tn} (h : Lg D s at_ L) (hs : at_ < s) : ∃ L' X, L = L' ++ X ∧ Lg D s (at_ + 1) L' ∧ (∀ e ∈ X, e.1 = at_) ∧ (∀ e ∈ L', e.1 ≠ at_) ∧ undo X (D at_) = D (at_ + 1) := by
  cases h with
  | base => omega
  | step h1 h2 h3 => exact ⟨_, _, rfl, h1, h2, fun e he => by have := h1.le.2 e he; omega, h3⟩
/-- the table at a rest of the other row -/
structure St (c : Cx) (bd : Int) (at_ : Nat) (W : World) : Prop where
  env : Env c W
  le : at_ ≤ c.m
  tb : ∃ vI vT vS N L S s, Tb c.B c.T c.ah c.wd c.mo c.v0 (.slice c.a1 c.m c.c1) at_ vI vT vS (c.D at_) N L S W ∧ N ≤ c.Nb ∧ (L.length : Int) ≤ bd ∧ (∀ e ∈ L, e.2.1 < N) ∧ StOk c S s ∧ Lg c.D s at_ L
/-- and the last stop is behind it -/
structure Sq (c : Cx) (bd : Int) (at_ : Nat) (W : World) : Prop where
  env : Env c W
  le : at_ < c.m
  tb : ∃ vI vT vS N L S s, Tb c.B c.T c.ah c.wd c.mo c.v0 (.slice c.a1 c.m c.c1) at_ vI vT vS (c.D at_) N L S W ∧ N ≤ c.Nb ∧ (L.length : Int) ≤ bd ∧ (∀ e ∈ L, e.2.1 < N) ∧ StOk c S s ∧ Lg c.D s at_ L ∧ at_ < s
theorem Sq.st {c : Cx} {bd : Int} {at_ : Nat} {W : World} (h : Sq c bd at_ W) : St c bd at_ W := by
  obtain ⟨vI, vT, vS, N, L, S, s, h1, h2, h3, h4, h5, h6, _⟩ := h.tb
  exact ⟨h.env, Nat.le_of_lt h.le, vI, vT, vS, N, L, S, s, h1, h2, h3, h4, h5, h6⟩
theorem Sq.later {c : Cx} {bd : Int} {at_ : Nat} {W W' : World} (h : Sq c bd at_ W) (hb : Below W.heap.size W W') : Sq c bd at_ W' := by
  obtain ⟨vI, vT, vS, N, L, S, s, h1, h2⟩ := h.tb
  exact ⟨h.env.later hb, h.le, vI, vT, vS, N, L, S, s, h1.later hb, h2⟩
theorem St.lt {c : Cx} {bd : Int} {at_ : Nat} {W : World} (h : St c bd at_ W) : c.T < W.heap.size ∧ c.B ≤ c.T := by
  obtain ⟨vI, vT, vS, N, L, S, s, hb, _⟩ := h.tb
  exact ⟨hb.lt, hb.lo⟩
theorem St.later {c : Cx} {bd : Int} {at_ : Nat} {W W' : World} (h : St c bd at_ W) (hb : Below W.heap.size W W') : St c bd at_ W' := by
  obtain ⟨vI, vT, vS, N, L, S, s, h1, h2⟩ := h.tb
  exact ⟨h.env.later hb, h.le, vI, vT, vS, N, L, S, s, h1.later hb, h2⟩

end Go.Proofs.Ytmbalnjobcgpkaa
