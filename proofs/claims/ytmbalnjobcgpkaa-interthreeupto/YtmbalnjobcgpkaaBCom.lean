
/-
  The program's table while the other row's lines are told their sorts, and where it goes over them; conditions: how many lines there are.
-/
import Derived.Test.YtmbalnjobcgpkaaBKs
import Derived.Test.YtmbalnjobcgpkaaHDiff
import Derived.Test.YtmbalnjobcgpkaaORow
import Derived.Test.YtmbalnjobcgpkaaBKnow
import Derived.Test.YtmbalnjobcgpkaaBBack
import Derived.Test.YtmbalnjobcgpkaaBLong
namespace Go.Proofs.Ytmbalnjobcgpkaa
open Go.RowKit Go.Proofs.Ytmbalnjobcgpkaa.Ln Go.Proofs.Ytmbalnjobcgpkaa.Ol

/-- where the rows have the same line, told from their ends -/
def mtL (xs ys : List Tx) (i k : Nat) : Bool := decide (i < xs.length ∧ k < ys.length ∧ xs[xs.length - 1 - i]? = ys[ys.length - 1 - k]?)
def nearL (n m wd : Nat) (i k : Nat) : Bool := decide (loW k ((n : Int) - m) wd ≤ ((i / 64 : Nat) : Int) ∧ ((i / 64 : Nat) : Int) < hiW k ((n : Int) - m) wd)
/-- the bits at a rest -/
def DL (xs ys : List Tx) (wd at_ : Nat) : Bs := idl (bnd (mtL xs ys) (nearL xs.length ys.length wd)) (ys.length - at_)
theorem dd_lc (xs ys : List Tx) : ∀ i k, i ≤ xs.length → k ≤ ys.length → dd (mtL xs ys) i k = lc (xs.drop (xs.length - i)) (ys.drop (ys.length - k)) := by
  intro i
  induction i with
  | zero => intro k _ _; rw [Nat.sub_zero, List.drop_length, lc_nil, dd_zero]
  | succ i ih =>
    intro k
    induction k with
    | zero => intro _ _; rw [Nat.sub_zero, List.drop_length, lc_nilr, dd_zeror]
    | succ k ihk =>
      intro hi hk
      have e1 : xs.length - (i + 1) + 1 = xs.length - i := by omega
      have e2 : ys.length - (k + 1) + 1 = ys.length - k := by omega
      have a1 := ih k (by omega) (by omega)
      have a2 := ih (k + 1) (by omega) hk
      have a3 := ihk hi (by omega)
      have h1 : xs.length - (i + 1) < xs.length := by omega
      have h2 : ys.length - (k + 1) < ys.length := by omega
      rw [List.drop_eq_getElem_cons h1, e1] at a3
      rw [List.drop_eq_getElem_cons h2, e2] at a2
      rw [dd_succ, List.drop_eq_getElem_cons h1, List.drop_eq_getElem_cons h2, e1, e2, a1, a2, a3]
      have g1 : xs[xs.length - 1 - i]? = some xs[xs.length - (i + 1)] := by rw [show xs.length - 1 - i = xs.length - (i + 1) by omega]; exact List.getElem?_eq_getElem h1
      have g2 : ys[ys.length - 1 - k]? = some ys[ys.length - (k + 1)] := by rw [show ys.length - 1 - k = ys.length - (k + 1) by omega]; exact List.getElem?_eq_getElem h2
      have hm : mtL xs ys i k = decide (xs[xs.length - (i + 1)] = ys[ys.length - (k + 1)]) := by
        unfold mtL
        rw [g1, g2, Bool.eq_iff_iff]
        simp only [decide_eq_true_eq, Option.some.injEq]
        exact ⟨fun h => h.2.2, fun h => ⟨by omega, by omega, h⟩⟩
      rw [hm]
      by_cases e : xs[xs.length - (i + 1)] = ys[ys.length - (k + 1)]
      · rw [if_pos (by simpa using e), e, lc_head]
      · rw [if_neg (by simpa using e), lc_cons, if_neg e]
        omega
theorem near_band {xs ys : List Tx} {wd : Nat} : ∀ i k, i < xs.length → k < ys.length → mtL xs ys i k = true → (xs.length - ys.length : Int) - (i - k) - (i - k) ≤ wd → (i - k : Int) - (xs.length - ys.length) + (i - k) ≤ wd → nearL xs.length ys.length wd i k = true := by
  intro i k _ _ _ h1 h2
  unfold nearL loW hiW
  rw [decide_eq_true_eq]
  generalize (xs.length : Int) = n at h1 h2 ⊢
  generalize (ys.length : Int) = m at h1 h2 ⊢
  obtain ⟨lo, hlo⟩ : ∃ z, (k : Int) + ((n - m) - wd) / 2 = z := ⟨_, rfl⟩
  obtain ⟨hi, hhi⟩ : ∃ z, (k : Int) + ((n - m) + wd) / 2 = z := ⟨_, rfl⟩
  rw [hlo, hhi]
  have l1 : lo ≤ i := by omega
  have l2 : (i : Int) ≤ hi := by omega
  constructor
  · by_cases hz : 0 ≤ lo
    · rw [Int.tdiv_eq_ediv_of_nonneg hz]; omega
    · have : lo.tdiv 64 ≤ 0 := by
        have h4 : lo.tdiv 64 = -((-lo).tdiv 64) := by rw [Int.neg_tdiv]; omega
        rw [h4, Int.tdiv_eq_ediv_of_nonneg (by omega)]
        omega
      omega
  · rw [Int.tdiv_eq_ediv_of_nonneg (by omega)]; omega
theorem DL_ok {xs ys : List Tx} {wd i k : Nat} (hi : i ≤ xs.length) (hk : k ≤ ys.length) (hc : Cst (mtL xs ys) xs.length ys.length wd i k) : dd (bnd (mtL xs ys) (nearL xs.length ys.length wd)) i k = dd (mtL xs ys) i k :=
  bnd_same near_band (i + k) i k (Nat.le_refl _) hi hk hc
/-- how many bits are not set -/
theorem dd_flat {mt : Nat → Nat → Bool} {k q : Nat} (h : ∀ p, q ≤ p → idl mt k p = true) : ∀ p, q ≤ p → dd mt p k = dd mt q k := by
  intro p
  induction p with
  | zero => intro hp; rw [Nat.le_zero.1 hp]
  | succ p ih =>
    intro hp
    by_cases e : q = p + 1
    · rw [e]
    · have h1 := h p (by omega)
      unfold idl at h1
      rw [decide_eq_true_eq] at h1
      rw [h1, ih (by omega)]
theorem bnd_top {xs ys : List Tx} {near : Nat → Nat → Bool} : ∀ i k, xs.length ≤ i → bnd (mtL xs ys) near i k = false := by
  intro i k h
  unfold bnd mtL
  rw [Bool.and_eq_false_iff]
  exact Or.inl (decide_eq_false (by omega))
theorem long_dd {xs ys : List Tx} {wd N : Nat} (h : ∀ p, 64 * N ≤ p → DL xs ys wd 0 p = true) : cnb (fun i => !DL xs ys wd 0 i) (64 * N) = dd (bnd (mtL xs ys) (nearL xs.length ys.length wd)) xs.length ys.length := by
  unfold DL at h ⊢
  rw [Nat.sub_zero] at h ⊢
  rw [cnb_dd]
  by_cases e : xs.length ≤ 64 * N
  · exact idl_top bnd_top _ _ e
  · exact (dd_flat h _ (by omega)).symm
theorem long_le (xs ys : List Tx) (near : Nat → Nat → Bool) : dd (bnd (mtL xs ys) near) xs.length ys.length ≤ xs.length ∧ dd (bnd (mtL xs ys) near) xs.length ys.length ≤ ys.length := dd_le _ _ _
theorem dd_all (xs ys : List Tx) : dd (mtL xs ys) xs.length ys.length = lc xs ys := by
  rw [dd_lc xs ys _ _ (Nat.le_refl _) (Nat.le_refl _), Nat.sub_self, Nat.sub_self, List.drop_zero, List.drop_zero]
/-- where so many changes are enough -/
theorem cst_start {xs ys : List Tx} {wd : Nat} (h : (xs.length : Int) + ys.length - 2 * dd (bnd (mtL xs ys) (nearL xs.length ys.length wd)) xs.length ys.length ≤ wd) : Cst (mtL xs ys) xs.length ys.length wd xs.length ys.length := by
  have := bnd_le (mtL xs ys) (nearL xs.length ys.length wd) xs.length ys.length
  unfold Cst
  omega
theorem long_lc {xs ys : List Tx} {wd : Nat} (h : (xs.length : Int) + ys.length - 2 * dd (bnd (mtL xs ys) (nearL xs.length ys.length wd)) xs.length ys.length ≤ wd) : dd (bnd (mtL xs ys) (nearL xs.length ys.length wd)) xs.length ys.length = lc xs ys := by
  rw [DL_ok (Nat.le_refl _) (Nat.le_refl _) (cst_start h), dd_all]
/-- a line is idle -/
theorem idle_lc {xs ys : List Tx} {wd i k : Nat} (hi : i + 1 ≤ xs.length) (hk : k ≤ ys.length) (hc : Cst (mtL xs ys) xs.length ys.length wd (i + 1) k) : idl (bnd (mtL xs ys) (nearL xs.length ys.length wd)) k i = decide (dd (mtL xs ys) (i + 1) k = dd (mtL xs ys) i k) := by
  have e1 := DL_ok hi hk hc
  have l1 := bnd_le (mtL xs ys) (nearL xs.length ys.length wd) i k
  obtain ⟨l2, l3, _⟩ := dd_step (mtL xs ys) (i + k) i k (Nat.le_refl _)
  unfold idl
  rw [Bool.eq_iff_iff, decide_eq_true_eq, decide_eq_true_eq, e1]
  constructor
  · intro h; omega
  · intro h
    rw [DL_ok (by omega) hk (by unfold Cst at hc ⊢; omega), h]
theorem cst_del {xs ys : List Tx} {wd i k : Nat} (hc : Cst (mtL xs ys) xs.length ys.length wd (i + 1) k) (h : dd (mtL xs ys) (i + 1) k = dd (mtL xs ys) i k) : Cst (mtL xs ys) xs.length ys.length wd i k := by unfold Cst at hc ⊢; omega
theorem cst_ins {xs ys : List Tx} {wd i k : Nat} (hc : Cst (mtL xs ys) xs.length ys.length wd i (k + 1)) (h : dd (mtL xs ys) i (k + 1) = dd (mtL xs ys) i k) : Cst (mtL xs ys) xs.length ys.length wd i k := by unfold Cst at hc ⊢; omega
theorem cst_keep {xs ys : List Tx} {wd i k : Nat} (hc : Cst (mtL xs ys) xs.length ys.length wd (i + 1) (k + 1)) (h : dd (mtL xs ys) (i + 1) (k + 1) = dd (mtL xs ys) i k + 1) : Cst (mtL xs ys) xs.length ys.length wd i k := by unfold Cst at hc ⊢; omega
/-- the marks of a line of the other row -/
theorem marks_mt {xs ys : List Tx} {d : List Tx} {wsf : Nat → List Nat} {gf : Nat → Bs} (hp : KP xs xs.length xs.length d wsf gf) {j : Nat} {y : Tx} (hy : ys[j]? = some y) (p : Nat) : gf (sidx d y) p = mtL xs ys p (ys.length - 1 - j) := by
  obtain ⟨hj, _⟩ := List.getElem?_eq_some_iff.1 hy
  have e : ys[ys.length - 1 - (ys.length - 1 - j)]? = some y := by rw [show ys.length - 1 - (ys.length - 1 - j) = j by omega]; exact hy
  unfold mtL
  rw [e]
  by_cases hd : y ∈ d
  · obtain ⟨s, h1, h2⟩ := sidx_at hd
    rw [h1, hp.gs s (List.getElem?_eq_some_iff.1 h2).1, h2, Bool.eq_iff_iff, decide_eq_true_eq, decide_eq_true_eq]
    exact ⟨fun h => ⟨h.1, by omega, h.2⟩, fun h => ⟨h.1, h.2.2⟩⟩
  · rw [show sidx d y = 0 from if_neg hd, hp.g0]
    symm
    rw [decide_eq_false_iff_not]
    rintro ⟨h1, _, h3⟩
    exact hd (hp.cover p y h1 h3)

end Go.Proofs.Ytmbalnjobcgpkaa

namespace Go.Proofs.Ytmbalnjobcgpkaa
open Go.RowKit Go.Proofs.Ytmbalnjobcgpkaa.Ln Go.Proofs.Ytmbalnjobcgpkaa.Ol

/-- how many lines at both beginnings are the same -/
def alk : List Tx → List Tx → Nat
  | x :: a, y :: b => if x = y then alk a b + 1 else 0
  | _, _ => 0
theorem alk_le : ∀ a b : List Tx, alk a b ≤ a.length ∧ alk a b ≤ b.length
  | [], _ => ⟨Nat.zero_le _, Nat.zero_le _⟩
  | _ :: _, [] => ⟨Nat.zero_le _, Nat.zero_le _⟩
  | x :: a, y :: b => by
    have := alk_le a b
    unfold alk
    split <;> simp <;> omega
theorem alk_take : ∀ a b : List Tx, a.take (alk a b) = b.take (alk a b)
  | [], b => by simp [alk]
  | _ :: _, [] => by simp [alk]
  | x :: a, y :: b => by
    unfold alk
    split
    · rename_i h; rw [List.take_succ_cons, List.take_succ_cons, h, alk_take a b]
    · rfl
theorem alk_at (a b : List Tx) (k : Nat) {x y : Tx} (hx : a[k]? = some x) (hy : b[k]? = some y) : alk (a.drop k) (b.drop k) = if x = y then alk (a.drop (k + 1)) (b.drop (k + 1)) + 1 else 0 := by
  obtain ⟨h1, e1⟩ := List.getElem?_eq_some_iff.1 hx
  obtain ⟨h2, e2⟩ := List.getElem?_eq_some_iff.1 hy
  rw [List.drop_eq_getElem_cons h1, List.drop_eq_getElem_cons h2, e1, e2]
  rfl
theorem alk_end (a b : List Tx) (k : Nat) (h : a.length ≤ k ∨ b.length ≤ k) : alk (a.drop k) (b.drop k) = 0 := by
  rcases h with h | h
  · rw [List.drop_of_length_le h]; simp [alk]
  · rw [List.drop_of_length_le h]; cases a.drop k <;> simp [alk]
theorem lc_alk (a b : List Tx) : lc a b = alk a b + lc (a.drop (alk a b)) (b.drop (alk a b)) := by
  have h := lc_front (a.take (alk a b)) (a.drop (alk a b)) (b.drop (alk a b))
  rw [List.take_append_drop, alk_take, List.take_append_drop, List.length_take, Nat.min_eq_left (alk_le a b).2] at h
  omega
theorem df_alk : ∀ a b : List Tx, df a b = (a.take (alk a b)).map (fun x => ((2, 0, x) : Oq)) ++ df (a.drop (alk a b)) (b.drop (alk a b))
  | [], b => by simp [alk]
  | x :: a, [] => by simp [alk]
  | x :: a, y :: b => by
    unfold alk
    split
    · rename_i h
      subst h
      rw [df_cons, if_pos ⟨rfl, lc_head x a b⟩, df_alk a b]
      simp
    · simp
/-- where it goes on -/
structure AK (w : World) (a b : List Tx) (k : Nat) (W : World) : Prop where
  bel : Below w.heap.size w W
  eq : alk a b = k + alk (a.drop k) (b.drop k)
set_option maxHeartbeats 2000000 in
theorem balike_any (v u : Value) (a b : List Tx) (w : World) (hA : RowAt w v a) (hB : RowAt w u b) (hla : a.length ≤ 4294967296) (_hlb : b.length ≤ 4294967296) :
    Calls Try.prog 58 #[v, u] w fun e w' => e = .returned (.int .i64 (alk a b)) ∧ Below w.heap.size w w' := by
  obtain ⟨ao, cap, rfl, hca⟩ := hA.open_
  obtain ⟨bo, cap2, rfl, hcb⟩ := hB.open_
  obtain ⟨n, hn⟩ : ∃ n, a.length = n := ⟨_, rfl⟩
  obtain ⟨m, hm⟩ : ∃ m, b.length = m := ⟨_, rfl⟩
  rw [hn] at hla hca ⊢
  rw [hm] at hcb ⊢
  have HN := hidden hn
  have HM := hidden hm
  have HCA := hidden hca
  have HCB := hidden hcb
  have HS := hidden (show AK w a b 0 w from ⟨Below.refl _ _, by simp⟩)
  clear hA hB hca hcb hn hm
  go_enter Try.func58, Try.ntmps58
  go_wp2_with fail
  go_loopw [5] (fun s wr => ∃ k : Nat, k ≤ n ∧ k ≤ m ∧ s = .int .i64 k ∧ Hid (AK w a b k wr)) (fun s _ => n - (intOf s).toNat)
  case atStart => exact ⟨0, Nat.zero_le _, Nat.zero_le _, rfl, HS.out⟩
  case round =>
    obtain ⟨k, hkn, hkm, rfl, hak⟩ := hrel
    clear HS
    by_cases hlt : k < n ∧ k < m
    · obtain ⟨h1, h2⟩ := hlt
      obtain ⟨x, hx⟩ : ∃ x, a[k]? = some x := ⟨a[k]'(by rw [HN.out]; exact h1), List.getElem?_eq_getElem _⟩
      obtain ⟨y, hy⟩ : ∃ y, b[k]? = some y := ⟨b[k]'(by rw [HM.out]; exact h2), List.getElem?_eq_getElem _⟩
      obtain ⟨b1, o1, hao, hcp1, hb1, cx⟩ := HCA.out k x hx
      obtain ⟨b2, o2, hbo, hcp2, hb2, cy⟩ := HCB.out k y hy
      subst hao hbo
      have cx2 := (hak.out.bel.cell (p := ⟨b1, o1 + k, none⟩) hb1).trans cx
      have cy2 := (hak.out.bel.cell (p := ⟨b2, o2 + k, none⟩) hb2).trans cy
      have HE := hidden (alk_at a b k hx hy)
      have hmn : (k : Int) < min (n : Int) m := by omega
      have hmd : decide ((k : Int) < min (n : Int) m) = true := decide_eq_true hmn
      clear hx hy cx cy
      by_cases hxy : x = y
      · subst hxy
        have hqq : (x == x) = true := by simp
        have HK := hidden (show ∀ (W : World), Below w.heap.size w W → AK w a b (k + 1) W from fun _ hb => ⟨hb, by rw [hak.out.eq, HE.out, if_pos rfl]; omega⟩)
        have HB := hidden hak.out.bel
        clear hak HE
        go_wp2_with fail
        go_region
        go_wp2_with fail
        go_roundw
        case rel => exact ⟨k + 1, by omega, by omega, by go_num, HK.out _ (by first | exact HB.out | (with_reducible (repeat (first | exact HB.out | exact Below.refl _ _ | apply bel_alloc | apply bel_put | apply bel_set | apply Below.drew | apply below_drewN | assumption | omega))))⟩
        case measure => simp [intOf]; omega
      · have hqq : (x == y) = false := by simpa using hxy
        have HK := hidden (show alk a b = k by rw [hak.out.eq, HE.out, if_neg hxy]; rfl)
        have HB := hidden hak.out.bel
        clear hak HE hxy
        go_wp2_with fail
        go_region
        go_wp2_with fail
        go_ret
        exact ⟨by rw [HK.out]; rfl, by first | exact HB.out | (with_reducible (repeat (first | exact HB.out | exact Below.refl _ _ | apply bel_alloc | apply bel_put | apply bel_set | apply Below.drew | apply below_drewN | assumption | omega)))⟩
    · have HK := hidden (show alk a b = k by rw [hak.out.eq, alk_end a b k (by rw [HN.out, HM.out]; omega)]; rfl)
      have HB := hidden hak.out.bel
      have hmd : decide ((k : Int) < min (n : Int) m) = false := by rw [decide_eq_false_iff_not]; omega
      clear hak
      go_wp2_with fail
      go_region
      go_wp2_with fail
      go_ret
      exact ⟨by rw [HK.out]; rfl, by first | exact HB.out | (with_reducible (repeat (first | exact HB.out | exact Below.refl _ _ | apply bel_alloc | apply bel_put | apply bel_set | apply Below.drew | apply below_drewN | assumption | omega)))⟩

end Go.Proofs.Ytmbalnjobcgpkaa

namespace Go.Proofs.Ytmbalnjobcgpkaa
open Go.RowKit Go.Proofs.Ytmbalnjobcgpkaa.Ln Go.Proofs.Ytmbalnjobcgpkaa.Ol

theorem own_base {W : World} {B B' size n : Nat} {e : TypeId} {v : Value} {xs : List Value} (h : W.ownsRow B e size v n xs) (hb : B' ≤ B) : W.ownsRow B' e size v n xs :=
  ⟨h.1, h.2.imp id fun ⟨g, cap, cur, h1, h2, h3⟩ => ⟨g, cap, cur, h1, Nat.le_trans hb h2, h3⟩⟩
/-- while the other row's lines are told their sorts -/
structure SK (T mb n K : Nat) (ah mo : Int) (d : List Tx) (D : DataW Unit) (v0 : Value) (vm : Nat → Value) (wsf : Nat → List Nat) (gf : Nat → Bs) (ys : List Tx) (k : Nat) (v1 : Value) (W : World) : Prop where
  kr : KR (T + 1) T K v0 v1 (Z ah) (Z 0) (Z 0) (.slice none 0 0) (.slice none 0 0) (Z mo) (.slice none 0 0) vm wsf gf W
  km : KM mb n d D W
  srt : W.ownsRow (T + 1) 3 1 v1 k ((List.range k).map fun j => Z (sidx d (ys.getD j [])))
section
variable {T mb n K : Nat} {ah mo : Int} {d : List Tx} {D : DataW Unit} {v0 : Value} {vm : Nat → Value} {wsf : Nat → List Nat} {gf : Nat → Bs} {ys : List Tx} {k : Nat} {v1 : Value} {W W' : World}
theorem SK.later (h : SK T mb n K ah mo d D v0 vm wsf gf ys k v1 W) (hb : Below W.heap.size W W') : SK T mb n K ah mo d D v0 vm wsf gf ys k v1 W' :=
  ⟨h.kr.later hb, km_stay h.km (fun _ _ he => by rw [hb.block mb (Array.getElem?_eq_some_iff.1 he).1]; exact he), owns_later h.srt hb⟩
theorem SK.more (h : SK T mb n K ah mo d D v0 vm wsf gf ys k v1 W) {g9 c9 : Nat} {x : Tx} (hx : ys[k]? = some x) {W9 : World} (ho : W9.ownsRow (T + 1) 3 1 (.slice (some ⟨g9, 0, none⟩) (k + 1) c9) (k + 1) ((List.range k).map (fun j => Z (sidx d (ys.getD j []))) ++ [Z (sidx d x)])) (hg : W.grownBy W9 v1.ownBlock) :
    SK T mb n K ah mo d D v0 vm wsf gf ys (k + 1) (.slice (some ⟨g9, 0, none⟩) (k + 1) c9) (W9.setCell ⟨T, 1, none⟩ (.slice (some ⟨g9, 0, none⟩) (k + 1) c9)) := by
  have hc := h.kr.tc.grown h.srt (by decide) hg
  refine ⟨⟨hc.set1 _, h.kr.tlt, rowT_keep hc (h.kr.top.kept hg (own_ne h.kr.top h.srt (by decide))) (by decide) 1 _, fun s hs => rowT_keep hc ((h.kr.own s hs).kept hg (own_ne (h.kr.own s hs) h.srt (by decide))) (by decide) 1 _, h.kr.apart⟩, km_stay h.km (fun es cl he => ?_), rowT_keep hc ?_ (by decide) 1 _⟩
  · rw [heap_setCell_ne _ _ _ _ _ (map_notT h.km h.kr.tc), hg.block mb (Array.getElem?_eq_some_iff.1 he).1 (map_notrow h.km h.srt)]
    exact he
  · rw [List.range_succ, List.map_append]
    have e : ys.getD k [] = x := by rw [List.getD_eq_getElem?_getD, hx]; rfl
    rw [List.map_cons, List.map_nil, e]
    exact ho
end
/-- all that is fixed, at so many changes -/
def mkC (T : Nat) (xs ys d : List Tx) (v0 : Value) (a1 : Option Addr) (c1 : Nat) (vm : Nat → Value) (wsf : Nat → List Nat) (gf : Nat → Bs) (wd : Nat) : Cx :=
  { B := T, T := T, ah := (xs.length : Int) - ys.length, wd := wd, mo := 8 * (xs.length : Int), v0 := v0, a1 := a1, c1 := c1, K := d.length + 1, m := ys.length, Nb := xs.length / 64 + 1, srt := fun j => sidx d (ys.getD j []), vm := vm, wsf := wsf, gf := gf, D := DL xs ys wd, crf := fun j => cbB (bnd (mtL xs ys) (nearL xs.length ys.length wd)) (ys.length - 1 - j) }
theorem DL_full (xs ys : List Tx) (wd : Nat) : DL xs ys wd ys.length = fullB := by
  funext p
  unfold DL
  rw [Nat.sub_self, idl_zero]; rfl
theorem mkC_good {T : Nat} {xs ys d : List Tx} {v0 : Value} {a1 : Option Addr} {c1 : Nat} {vm : Nat → Value} {wsf : Nat → List Nat} {gf : Nat → Bs} {wd : Nat} (hp : KP xs xs.length xs.length d wsf gf) (hn : xs.length ≤ 4294967296) (hm : ys.length ≤ 4294967296) (hw : wd ≤ 4503599627370496) : Good (mkC T xs ys d v0 a1 c1 vm wsf gf wd) := by
  refine ⟨hm, by show xs.length / 64 + 1 ≤ _; omega, ?_, ?_, ?_, fun j _ => ?_, fun j hj => ?_, fun p => ?_, fun s hs => ?_⟩
  · show -4398046511104 ≤ (xs.length : Int) - ys.length ∧ (xs.length : Int) - ys.length ≤ 4398046511104
    omega
  · show 0 ≤ (wd : Int) ∧ (wd : Int) ≤ 4503599627370496
    omega
  · show 0 ≤ 8 * (xs.length : Int) ∧ 8 * (xs.length : Int) ≤ 68719476736
    omega
  · show sidx d _ < d.length + 1
    have := sidx_le d (ys.getD j [])
    omega
  · have hj : j < ys.length := hj
    have h := rp_idl (bnd (mtL xs ys) (nearL xs.length ys.length wd)) (ys.length - 1 - j)
    have e1 : ys.length - 1 - j = ys.length - (j + 1) := by omega
    have e2 : ys.length - (j + 1) + 1 = ys.length - j := by omega
    have e3 : (mkC T xs ys d v0 a1 c1 vm wsf gf wd).gb j = fun i => bnd (mtL xs ys) (nearL xs.length ys.length wd) i (ys.length - 1 - j) := by
      funext p
      obtain ⟨y, hy⟩ : ∃ y, ys[j]? = some y := ⟨ys[j], List.getElem?_eq_getElem hj⟩
      have ey : ys.getD j [] = y := by rw [List.getD_eq_getElem?_getD, hy]; rfl
      have ec : ((ys.length - 1 - j : Nat) : Int) = (ys.length : Int) - 1 - j := by omega
      unfold Cx.gb bnd nearL
      show (gf (sidx d (ys.getD j [])) p && decide (loW ((ys.length : Int) - 1 - j) ((xs.length : Int) - ys.length) wd ≤ ((p / 64 : Nat) : Int) ∧ ((p / 64 : Nat) : Int) < hiW ((ys.length : Int) - 1 - j) ((xs.length : Int) - ys.length) wd)) = _
      rw [ey, marks_mt hp hy, ec]
    show Rp (DL xs ys wd (j + 1)) _ (DL xs ys wd j) (cbB _ (ys.length - 1 - j))
    rw [e3]
    unfold DL
    rw [← e2, ← e1]
    exact h
  · show DL xs ys wd ys.length p = true
    rw [DL_full]; rfl
  · have h := hp.mks s hs
    refine ⟨h.up, fun x hx => ?_, fun p hq => (h.all p hq).2⟩
    show x < xs.length / 64 + 1
    have := h.low x hx
    omega
theorem mkC_env {T mb : Nat} {xs ys d : List Tx} {D : DataW Unit} {ah mo : Int} {v0 : Value} {a1 : Option Addr} {c1 : Nat} {vm : Nat → Value} {wsf : Nat → List Nat} {gf : Nat → Bs} {W : World} (h : SK T mb xs.length (d.length + 1) ah mo d D v0 vm wsf gf ys ys.length (.slice a1 ys.length c1) W) (wd : Nat) : Env (mkC T xs ys d v0 a1 c1 vm wsf gf wd) W :=
  ⟨own_base h.kr.top (Nat.le_succ T), own_base h.srt (Nat.le_succ T), fun s hs => MkAt.of_owns (h.kr.own s hs)⟩
theorem env_wide {T : Nat} {xs ys d : List Tx} {v0 : Value} {a1 : Option Addr} {c1 : Nat} {vm : Nat → Value} {wsf : Nat → List Nat} {gf : Nat → Bs} {W : World} {wd : Nat} (h : Env (mkC T xs ys d v0 a1 c1 vm wsf gf wd) W) (wd' : Nat) : Env (mkC T xs ys d v0 a1 c1 vm wsf gf wd') W := ⟨h.top, h.srt, h.mks⟩
theorem st_begin {T : Nat} {xs ys d : List Tx} {v0 : Value} {a1 : Option Addr} {c1 : Nat} {vm : Nat → Value} {wsf : Nat → List Nat} {gf : Nat → Bs} {W : World} {wd : Nat} (he : Env (mkC T xs ys d v0 a1 c1 vm wsf gf wd) W) {vI vT vS : Value}
    (hb : Tb T T ((xs.length : Int) - ys.length) wd (8 * (xs.length : Int)) v0 (.slice a1 ys.length c1) ys.length vI vT vS fullB 0 [] [(ys.length, .slice none 0 0, fullB, 0)] W) (bd : Int) (hbd : 0 ≤ bd) : St (mkC T xs ys d v0 a1 c1 vm wsf gf wd) bd ys.length W := by
  refine ⟨he, Nat.le_refl _, vI, vT, vS, 0, [], [(ys.length, .slice none 0 0, fullB, 0)], ys.length, ?_, Nat.zero_le _, by simpa using hbd, by simp, ⟨fun i t ht => ?_, fun i t u ht hu => ?_, ⟨_, rfl, rfl⟩, ⟨_, rfl, rfl⟩⟩, Lg.base⟩
  · have e : (mkC T xs ys d v0 a1 c1 vm wsf gf wd).D ys.length = fullB := DL_full xs ys wd
    rw [e]; exact hb
  · cases i with
    | zero =>
      cases ht
      exact ⟨by show 0 + ys.length ≤ ys.length; omega, (DL_full xs ys wd).symm, Nat.zero_le _⟩
    | succ i => simp at ht
  · simp at hu
/-- the table anew, with nothing in it -/
theorem tb_new {T n K : Nat} {ah mo : Int} {d : List Tx} {D : DataW Unit} {mb : Nat} {v0 v1 : Value} {vm : Nat → Value} {wsf : Nat → List Nat} {gf : Nat → Bs} {ys : List Tx} {k : Nat} {W : World} (h : SK T mb n K ah mo d D v0 vm wsf gf ys k v1 W) (wd : Int) : Tb T T ah wd mo v0 v1 0 (.slice none 0 0) (.slice none 0 0) (.slice none 0 0) fullB 0 [] [] (W.setCell ⟨T, 3, none⟩ (Z wd)) :=
  ⟨h.kr.tc.set3 _, Nat.le_refl _, World.ownsRow_nil _ _ _ _, fun _ _ => rfl, World.ownsRow_nil _ _ _ _, World.ownsRow_nil _ _ _ _, fun s hs => by cases hs⟩
theorem tb_wide {B T : Nat} {ah wd mo : Int} {v0 v1 : Value} {at_ : Nat} {vI vT vS : Value} {V : Bs} {N : Nat} {L : List Tn} {S : List Sp} {W : World} (h : Tb B T ah wd mo v0 v1 at_ vI vT vS V N L S W) (wd' : Int) : Tb B T ah wd' mo v0 v1 at_ vI vT vS V N L S (W.setCell ⟨T, 3, none⟩ (Z wd')) :=
  (h.rw_.setT h.c 3 (Z wd')).tb (h.c.set3 _) h.lo

end Go.Proofs.Ytmbalnjobcgpkaa
