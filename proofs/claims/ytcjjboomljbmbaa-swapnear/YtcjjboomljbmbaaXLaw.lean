
/-
  What the law's own alive, changes and num answer, and how long what is told is; no condition but those that each states.
-/
import Derived.Test.YtcjjboomljbmbaaXOps
import Derived.Test.YtcjjboomljbmbaaXBack
import Derived.Test.YtcjjboomljbmbaaALaw
import Derived.Test.YtcjjboomljbmbaaOLaw
namespace Go.Proofs.Ytcjjboomljbmbaa
open Go.RowKit Go.Proofs.Ytcjjboomljbmbaa.Ln Go.Proofs.Ytcjjboomljbmbaa.Ol

theorem dooX_fit {l : List Oq} {old : List Tx} (hf : Fit l) (ho : FitT old) : FitT ((doo l old).getD []) := by
  cases h : doo l old with
  | none => exact fun x hx => by cases hx
  | some a => exact doo_fit hf ho h
theorem dooX_len (l : List Oq) (old : List Tx) : ((doo l old).getD []).length ≤ l.length + old.length := by
  cases h : doo l old with
  | none => simp
  | some a => exact doo_len h
theorem swp_is (p q : List Oq) : ((swp p q).2.2 ≠ 0 ∧ (swp p q).1 = [] ∧ (swp p q).2.1 = []) ∨ ∃ x y r, swp p q = (x, y, 0) ∧ Sw p q x y r := by
  by_cases h : (swp p q).2.2 = 0
  · have e : swp p q = ((swp p q).1, (swp p q).2.1, 0) := by rw [← h]
    obtain ⟨r, S⟩ := swp_some e
    exact Or.inr ⟨_, _, r, e, S⟩
  · exact Or.inl ⟨h, swp_none h⟩
theorem swp_len (p q : List Oq) : (swp p q).1.length ≤ 4294967296 ∧ (swp p q).2.1.length ≤ 4294967296 := by
  rcases swp_is p q with ⟨_, h1, h2⟩ | ⟨x, y, r, e, S⟩
  · rw [h1, h2]; simp
  · rw [e]; exact ⟨right_len S.rx, right_len S.ry⟩
theorem swp_fit {p q : List Oq} (hp : Fit p) (hq : Fit q) : Fit (swp p q).1 ∧ Fit (swp p q).2.1 := by
  rcases swp_is p q with ⟨_, h1, h2⟩ | ⟨x, y, r, e, S⟩
  · rw [h1, h2]; exact ⟨(fun x hx => by cases hx), (fun x hx => by cases hx)⟩
  · rw [e]
    have hw := wk_fit _ _ _ _ _ hp hq S.hw
    have h1 := nrm_fit (xs := fsO r.1) (fsO_of r.1 (fun t => t.length ≤ 140737488355328) hw)
    have h2 := nrm_fit (xs := snO r.1) (snO_of r.1 (fun t => t.length ≤ 140737488355328) hw)
    exact ⟨by show Fit x; rw [S.ex_]; exact h1, by show Fit y; rw [S.ey]; exact h2⟩
theorem num15_any (z : Int) (w : World) : Calls Try.prog 14 #[.int .i64 z] w fun e w' => e = .returned (.int .i64 z) ∧ w' = w := by
  go_enter Try.func14, Try.ntmps14
  go_wp2_with fail
  go_ret
  exact ⟨rfl, rfl⟩
theorem chg_take {xs : List Oq} {k : Nat} {x : Oq} (h : xs[k]? = some x) : (xs.take (k + 1)).filter chg = (xs.take k).filter chg ++ [x].filter chg := by
  rw [take_snoc h, List.filter_append]

set_option maxHeartbeats 4000000 in
theorem changes_any (v : Value) (xs : List Oq) (w : World) (hX : OpsAt w v xs) (hl : xs.length ≤ 4398046511104) :
    Calls Try.prog 18 #[v] w fun e w' => ∃ v', e = .returned v' ∧ OpsAt w' v' (xs.filter chg) ∧ Below w.heap.size w w' := by
  obtain ⟨ao, cap, rfl, hc⟩ := hX.open_
  have HC := hidden hc
  clear hX hc
  go_enter Try.func18, Try.ntmps18
  go_wp2_with fail
  go_loopw [3, 4] (fun q i wr => ∃ k : Nat, k ≤ xs.length ∧ i = .int .i64 k ∧ Hid (wr.ownsRow w.heap.size 41 3 q ((xs.take k).filter chg).length (cellsO ((xs.take k).filter chg)) ∧ Below w.heap.size w wr)) (fun _ i _ => xs.length - (intOf i).toNat)
  case atStart => exact ⟨0, Nat.zero_le _, rfl, ⟨rfl, Or.inl ⟨rfl, rfl⟩⟩, Below.refl _ _⟩
  case round =>
    obtain ⟨k, hk, rfl, hst⟩ := hrel
    have hws := hst.out.2.size
    by_cases hlt : k < xs.length
    · obtain ⟨x1, x2, x3, hx⟩ := op_some hlt
      obtain ⟨b, o, hao, hcap, hb, hcc⟩ := HC.out k _ hx
      subst hao
      obtain ⟨c1, c2, c3⟩ := three_later hb hst.out.2 hcc
      simp only at c1 c2 c3
      have HXK := hidden (chg_take hx)
      have hfl : ((xs.take k).filter chg).length ≤ k := by have h1 := List.length_filter_le chg (xs.take k); rw [List.length_take] at h1; omega
      clear hx hcc
      by_cases hch : x1 = 3 ∨ x1 = 4
      · have HXQ := hidden (show (xs.take (k + 1)).filter chg = (xs.take k).filter chg ++ [(x1, x2, x3)] by
          rw [HXK.out]
          rcases hch with rfl | rfl <;> rfl)
        have hdd : (x1 == 3 || x1 == 4) = true := by simpa using hch
        rcases hch with rfl | rfl
        all_goals
          go_wp2_with (at_builtin; go_must (refine wpList_append_ops _ (by go_simp) (.tmp 25) (.tmp 30) rfl w.heap.size _ (.slice (some ⟨wr.heap.size, 0, none⟩) 1 1) ((xs.take k).filter chg) [(_, x2, x3)] rfl rfl (hst.out.1.alloc _) (ops_oneAt _ _ _ _ _ rfl) (by simp only [List.length_cons, List.length_nil]; omega) (by simp; omega) ?_; intro v9 w9 hown9 hadd9))
          have HK := hidden (show w9.ownsRow w.heap.size 41 3 v9 ((xs.take (k + 1)).filter chg).length (cellsO ((xs.take (k + 1)).filter chg)) ∧ Below w.heap.size w w9 from ⟨by rw [HXQ.out]; exact hown9, adds_bel (bel_alloc hst.out.2 _) (by simp; omega) (hst.out.1.alloc (opO _ x2 x3)) hadd9⟩)
          clear hown9 hadd9
          go_roundw
          case rel => exact ⟨k + 1, by omega, by go_num, HK.out⟩
          case measure => simp [intOf]; omega
      · have h3 : ¬ x1 = 3 := fun h => hch (Or.inl h)
        have h4 : ¬ x1 = 4 := fun h => hch (Or.inr h)
        have HXQ := hidden (show (xs.take (k + 1)).filter chg = (xs.take k).filter chg by
          rw [HXK.out]
          have : [(x1, x2, x3)].filter chg = [] := by simp [chg, h3, h4]
          rw [this, List.append_nil])
        have h3b : (x1 == 3) = false := by simpa using h3
        have h4b : (x1 == 4) = false := by simpa using h4
        go_wp2_with fail
        go_roundw
        case rel => exact ⟨k + 1, by omega, by go_num, by rw [HXQ.out]; exact hst.out⟩
        case measure => simp [intOf]; omega
    · have hke : xs.take k = xs := List.take_of_length_le (by omega)
      rw [hke] at hst
      go_wp2_with fail
      go_ret
      exact ⟨_, rfl, OpsAt.of_owns hst.out.1, hst.out.2⟩

def XA15 : List Oq := [(4, 0, [97, 10])]
def XB15 : List Oq := [(1, 3, []), (4, 0, [98, 10])]
def XF15 : List Oq := [(1, 2, []), (4, 0, [98, 10])]
def XS15 : List Oq := [(4, 0, [97, 10]), (1, 2, []), (2, 0, [98, 10])]

set_option maxHeartbeats 8000000 in
theorem alive15_any (w : World) : Calls Try.prog 9 #[] w fun e w' => e = .returned (.bool true) ∧ Below w.heap.size w w' := by
  have HF0 := hidden (fit_of (xs := []) rfl)
  have HFA := hidden (fit_of (xs := XA15) rfl)
  have HFB := hidden (fit_of (xs := XB15) rfl)
  have HS0 := hidden (show swp [] [] = ([], [], 0) by decide)
  have HS1 := hidden (show swp XA15 XB15 = (XF15, XS15, 0) by decide)
  go_enter Try.func9, Try.ntmps9
  go_upto_region 3 with fail
  generalize hW0 : World.alloc _ _ = w0
  have HO1 := hidden (show OpsAt w0 (.slice (some ⟨w.heap.size, 0, none⟩) 1 1) XA15 by
    rw [← hW0]; exact (ops_one w 4 0 [97, 10]).later (bel_alloc (Below.refl _ _) _))
  have HO2 := hidden (show OpsAt w0 (.slice (some ⟨w.heap.size + 1, 0, none⟩) 2 2) XB15 by
    rw [← hW0]
    refine ops_lit (xs := XB15) (cs := #[.int .i64 1, .int .i64 3, .string ⟨#[]⟩, .int .i64 4, .int .i64 0, .string ⟨#[98, 10]⟩]) ?_ rfl rfl
    have := World.alloc_heap_new (w.alloc (.cells #[.int .i64 4, .int .i64 0, .string ⟨#[97, 10]⟩] 41)) (.cells #[.int .i64 1, .int .i64 3, .string ⟨#[]⟩, .int .i64 4, .int .i64 0, .string ⟨#[98, 10]⟩] 41)
    simpa using this)
  have HB0 := hidden (show Below w.heap.size w w0 by rw [← hW0]; exact bel_alloc (bel_alloc (Below.refl _ _) _) _)
  clear hW0
  go_wp2_with fail
  refine (swap_any _ _ [] [] w0 (OpsAt.nil _ _ _) (OpsAt.nil _ _ _) (by simp) (by simp) HF0.out HF0.out).mono ?_
  rintro e w1 ⟨q1, q2, rfl, ho1, ho2, hb⟩
  simp only [HS0.out] at ho1 ho2 ⊢
  obtain ⟨a1, c1, e1⟩ := ho1.shape
  obtain ⟨a2, c2, e2⟩ := ho2.shape
  simp only [List.length_nil] at e1 e2
  subst e1 e2
  have HB1 := hidden (HB0.out.trans (hb.mono HB0.out.size))
  have HP1 := hidden (HO1.out.later hb)
  have HP2 := hidden (HO2.out.later hb)
  clear hb ho1 ho2 HO1 HO2
  go_wp2_with fail
  refine (swap_any _ _ XA15 XB15 w1 HP1.out HP2.out (by simp [XA15]) (by simp [XB15]) HFA.out HFB.out).mono ?_
  rintro e w2 ⟨q3, q4, rfl, ho1, ho2, hb⟩
  simp only [HS1.out] at ho1 ho2 ⊢
  obtain ⟨b, o, cap, rfl, hcap, hbl, hc⟩ := ho1.cells (by simp [XF15])
  obtain ⟨d1, d2, d3⟩ := hc 0 _ rfl
  obtain ⟨a4, c4, e4⟩ := ho2.shape
  simp only [show XS15.length = 3 from rfl, show XF15.length = 2 from rfl, Nat.zero_mul, Nat.add_zero] at e4 hcap d1 d2 d3 ⊢
  subst e4
  have HB2 := hidden (HB1.out.trans (hb.mono HB1.out.size))
  clear hb ho1 ho2 hc d1 d3 HP1 HP2
  go_wp2_with fail
  refine (num15_any _ _).mono ?_
  rintro e w' ⟨rfl, hw⟩
  subst w'
  go_wp2_with fail
  refine (num15_any _ _).mono ?_
  rintro e w' ⟨rfl, hw⟩
  subst w'
  go_wp2_with fail
  go_ret
  exact ⟨by first | rfl | simp, HB2.out⟩

end Go.Proofs.Ytcjjboomljbmbaa
