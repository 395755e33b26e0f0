
/-
  What the program's Len answers at any two rows of lines: how long the longest common row is; conditions: how many lines there are, and that they can lie in memory.
-/
import Derived.Test.YtdjdiaadflggfaaBCommon
import Derived.Test.YtdjdiaadflggfaaAPDo
namespace Go.Proofs.Ytdjdiaadflggfaa
open Go.RowKit Go.Deep Go.Proofs.Ytdjdiaadflggfaa.Ln Go.Proofs.Ytdjdiaadflggfaa.Ol

theorem FitT.drop {xs : List Tx} (h : FitT xs) (k : Nat) : FitT (xs.drop k) := fun x hx => h x (List.mem_of_mem_drop hx)
/-- what the table tells of the whole -/
theorem long_any {c : Cx} {xs ys : List Tx} {wd : Nat} {W : World} (hG : Good c) (hD : c.D = DL xs ys wd) (he : Enough xs ys wd) (h : St c (c.mo + c.Nb) 0 W) : Calls Try.prog 18 #[.pointer (some ⟨c.T, 0, none⟩)] W fun e w' => e = .returned (.int .i64 (lc xs ys)) ∧ w' = W := by
  obtain ⟨_, _, vI, vT, vS, N, L, S, s, hT, hN, _⟩ := h
  rw [hD] at hT
  refine (blong_any hT (Nat.le_trans hN hG.nb)).mono fun e w' h => ?_
  rw [← long_lc he, ← long_dd hT.top]
  exact h
set_option maxHeartbeats 4000000 in
theorem lcslen_any (v u : Value) (a b : List Tx) (w : World) (hA : RowAt w v a) (hB : RowAt w u b) (hla : a.length ≤ 1048576) (hlb : b.length ≤ 1048576) (hfa : FitT a) (hfb : FitT b) :
    Calls Try.prog 9 #[v, u] w fun e w' => e = .returned (.int .i64 (lc a b)) ∧ Below w.heap.size w w' := by
  have HAL := hidden (balike_any v u a b w hA hB (by omega) (by omega))
  have HA := hidden hA
  have HB := hidden hB
  obtain ⟨ao, cap, rfl⟩ := hA.shape
  obtain ⟨bo, cap2, rfl⟩ := hB.shape
  have hcp := hA.room
  have hcp2 := hB.room
  obtain ⟨k, hk⟩ : ∃ k, alk a b = k := ⟨_, rfl⟩
  have hkl := alk_le a b
  have HLC := hidden (lc_alk a b)
  have hll := lc_le (a.drop k) (b.drop k)
  rw [hk] at hkl HLC HAL
  obtain ⟨n, hn⟩ : ∃ n, a.length = n := ⟨_, rfl⟩
  obtain ⟨m, hm⟩ : ∃ m, b.length = m := ⟨_, rfl⟩
  have HN := hidden hn
  have HM := hidden hm
  have HFA := hidden (hfa.drop k)
  have HFB := hidden (hfb.drop k)
  rw [List.length_drop] at hll
  rw [hn] at hla hcp hkl hll HAL HA
  rw [hm] at hlb hcp2 hkl HAL HB
  rw [hn, hm]
  clear hA hB hn hm hk hfa hfb
  go_enter Try.func9, Try.ntmps9
  go_wp2_with fail
  refine HAL.out.mono ?_
  rintro e w1 ⟨rfl, hb1⟩
  have HB1 := hidden hb1
  clear HAL hb1
  obtain ⟨va, hva⟩ : ∃ v, Value.slice (if cap = k then ao else Option.map (fun x => x.add k) ao) (n - k) (cap - k) = v := ⟨_, rfl⟩
  obtain ⟨vb, hvb⟩ : ∃ v, Value.slice (if cap2 = k then bo else Option.map (fun x => x.add k) bo) (m - k) (cap2 - k) = v := ⟨_, rfl⟩
  have HRA := hidden (show RowAt w1 va (a.drop k) by rw [← hva]; exact (HA.out.later HB1.out).rest2 HN.out.symm hkl.1)
  have HRB := hidden (show RowAt w1 vb (b.drop k) by rw [← hvb]; exact (HB.out.later HB1.out).rest2 HM.out.symm hkl.2)
  have HCM := hidden (fun (W : World) (h : Below w1.heap.size w1 W) => bcommon_any va vb (a.drop k) (b.drop k) W (HRA.out.later h) (HRB.out.later h) (by rw [List.length_drop, HN.out]; omega) (by rw [List.length_drop, HM.out]; omega) HFA.out HFB.out)
  have HBL := hidden (Below.refl w1.heap.size w1)
  have HWR := hidden (show IntKind.i64.wrap ((k : Int) + (lc (a.drop k) (b.drop k) : Nat)) = ((lc a b : Nat) : Int) by rw [HLC.out, IntKind.wrap_i64]; omega)
  go_wp2_with fail
  go_region_law (first | (refine step_call rfl 17 _ _ rfl #[va, vb] (by rw [← hva, ← hvb]; simp [Act.eval]; exact ⟨rfl, rfl⟩) (enters_of Try.func17 (by kernel_rfl) rfl) (HCM.out _ ?_) ?_; (· (with_reducible (repeat (first | exact HBL.out | exact Below.refl _ _ | apply bel_alloc | apply bel_put | apply bel_set | apply Below.drew | apply below_drewN | assumption | omega)))); rintro e w5 ⟨c, wd, rfl, hG, hm, hD, hE, hS, hBs, hBel⟩; refine ⟨_, rfl, ?_⟩; have HLG := hidden (long_any hG hD hE hS); have HB5 := hidden hBel) | (refine step_call rfl 18 _ _ rfl #[.pointer (some ⟨c.T, 0, none⟩)] (by simp [Act.eval]) (enters_of Try.func18 (by kernel_rfl) rfl) HLG.out ?_; rintro e w6 ⟨rfl, rfl⟩; refine ⟨_, rfl, ?_⟩))
  all_goals
    go_wp2_with fail
    go_ret
    refine ⟨congrArg (fun z => Ending.returned (Value.int .i64 z)) HWR.out, HB1.out.trans ((Below.mono (by (with_reducible (repeat (first | exact HBL.out | exact Below.refl _ _ | apply bel_alloc | apply bel_put | apply bel_set | apply Below.drew | apply below_drewN | assumption | omega)))) HB1.out.size).trans (HB5.out.mono ?_))⟩
    have := HB1.out.size
    simp only [World.size_drew]
    first | exact this | omega

end Go.Proofs.Ytdjdiaadflggfaa
