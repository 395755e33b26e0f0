/-
  What any node that may be is laid out as, and its whole machine; conditions: how many parts it has, and how great it is.
-/
import Derived.Test.YtjlihidmohokhaaNLayT
namespace Go.Proofs.Ytjlihidmohokhaa
open Go.RowKit Go.Proofs.Ytjlihidmohokhaa.Gl

theorem LayAns.from {P B : Nat} {mv : Value} {ss : List Sta} {next : Nat} {R R' : Tx → Nat → Nat → Prop} {K K' : Nat} {w w1 w' : World} {e : Ending} (h : LayAns P B mv ss next R K w1 e w') (hb : Below w.heap.size w w1) (hK : K ≤ K') (hR : ∀ s i j, R s i j ↔ R' s i j) : LayAns P B mv ss next R' K' w e w' := by
  obtain ⟨q, mv', ss', he, hm, hg, hl, hlen⟩ := h
  exact ⟨q, mv', ss', he, hm, (Mg.of_below hb).trans hg, hl.iff hR, by omega⟩
theorem tk1 (s : Tx) (f : Bs) (l : List Nd) (lo hi : Int) (i j : Nat) : i = j ↔ tk s (.mk 1 f l lo hi) i j := by rw [tk]; simp
theorem tk2 (s : Tx) (f : Bs) (l : List Nd) (lo hi : Int) (i j : Nat) : (i < s.length ∧ f (s.getD i 0).toNat = true ∧ j = i + 1) ↔ tk s (.mk 2 f l lo hi) i j := by rw [tk]; simp
theorem tk3 (s : Tx) (f : Bs) (l : List Nd) (lo hi : Int) (i j : Nat) : catK s l i j ↔ tk s (.mk 3 f l lo hi) i j := by rw [tk]; simp
theorem tk4 (s : Tx) (f : Bs) (l : List Nd) (lo hi : Int) (i j : Nat) : altK s l i j ↔ tk s (.mk 4 f l lo hi) i j := by rw [tk]; simp
theorem tk6 (s : Tx) (f : Bs) (l : List Nd) (lo hi : Int) (i j : Nat) : (i = 0 ∧ j = 0) ↔ tk s (.mk 6 f l lo hi) i j := by rw [tk]; simp
theorem tk7 (s : Tx) (f : Bs) (l : List Nd) (lo hi : Int) (i j : Nat) : (i = s.length ∧ j = s.length) ↔ tk s (.mk 7 f l lo hi) i j := by rw [tk]; simp
theorem lay_one {P B : Nat} {mv mv' : Value} {ss : List Sta} {t : Sta} {next : Nat} {R R' : Tx → Nat → Nat → Prop} {K : Nat} {w w1 w' : World} (hm : MAt w' P B mv' (ss ++ [t])) (hg : Mg P mv mv' w1 w') (hb : Below w.heap.size w w1) (hl : Laid ss (ss ++ [t]) R next ss.length) (hK : 1 ≤ K) (hR : ∀ s i j, R s i j ↔ R' s i j) : LayAns P B mv ss next R' K w (.returned (.int .i64 ss.length)) w' :=
  ⟨ss.length, mv', ss ++ [t], rfl, hm, (Mg.of_below hb).trans hg, hl.iff hR, by rw [List.length_append]; show ss.length + 1 ≤ _; omega⟩

set_option maxHeartbeats 8000000 in
theorem lay_any : ∀ (N : Nat) (x : Nd), cntN x ≤ N → N ≤ 1048576 → LayOk x := by
  intro N
  induction N with
  | zero => intro x hx; have := cntN_pos x; omega
  | succ N ih =>
    intro x hx hN most hrq v P B mv ss next w hnode hm hn hB hsz
    obtain ⟨k, f, kids, lo, hi⟩ := x
    obtain ⟨kv, rfl, hk⟩ := hnode.open
    obtain ⟨a, cap, rfl, hcap⟩ := hk.form
    rw [cntN] at hx
    have hlen := cnts_len kids
    obtain ⟨m, rfl⟩ : ∃ m, most = m + 1 := by
      cases most with
      | zero => cases hrq
      | succ m => exact ⟨m, rfl⟩
    rw [rqN_is] at hrq
    simp only [Bool.and_eq_true] at hrq
    have hAL := hrq.1
    have hall := List.all_eq_true.1 hrq.2
    have HKS := hidden (show ∀ d ∈ kids, cntN d ≤ N ∧ rqN d m = true from fun d hd => ⟨by
      obtain ⟨j, hj, hd2⟩ := List.mem_iff_getElem.1 hd
      have := cnts_at kids j d (by rw [List.getElem?_eq_getElem hj, hd2])
      omega, hall d hd⟩)
    have HIH := hidden (show ∀ d, cntN d ≤ N → LayOk d from fun d hd => ih d hd (by omega))
    have HM := hidden hm
    have HNODE := hidden hnode
    have HK := hidden hk
    have hP := hm.plt
    have HB0 := hidden (Below.refl w.heap.size w)
    have hxb : kids.length ≤ 1048576 := by omega
    have hpos := sizeN_pos' (.mk k f kids lo hi)
    have hl4 : ss.length < 1048576 := by omega
    have HS1 := hidden (show k ≠ 5 → sizeN (.mk k f kids lo hi) = 1 + sizes kids from fun h => by rw [sizeN, show reps k lo hi = 1 from by unfold reps; rw [if_neg h], Nat.one_mul])
    have hks : k = 1 ∨ k = 2 ∨ (k = 3 ∧ 2 ≤ kids.length) ∨ (k = 4 ∧ 2 ≤ kids.length) ∨ (k = 5 ∧ kids.length = 1 ∧ okTimes lo hi = true) ∨ k = 6 ∨ k = 7 := by
      have h9 := hAL
      unfold aloneN at h9
      split at h9
      · omega
      split at h9
      · omega
      split at h9
      · simp at h9; omega
      split at h9
      · rename_i h5; simp at h9; exact Or.inr (Or.inr (Or.inr (Or.inr (Or.inl ⟨h5, h9.1.1, h9.2⟩))))
      · cases h9
    have HSZ := hidden hsz
    have HPO := hidden hpos
    have HLT := hidden (show w.heap.size < (w.alloc (.cells #[.int .i64 k, .int .u64 (word f 0), .int .u64 (word f 1), .int .u64 (word f 2), .int .u64 (word f 3), .slice a kids.length cap, .int .i64 lo, .int .i64 hi] 26)).heap.size by simp)
    clear ih hrq hall hk hm hnode hx hlen hAL hsz hpos
    unfold nodeV
    go_enter Try.func42, Try.ntmps42
    rcases hks with rfl | rfl | ⟨rfl, hk2⟩ | ⟨rfl, hk2⟩ | ⟨rfl, hk1, hok⟩ | rfl | rfl
    · go_wp2_with fail
      go_ret
      exact ⟨next, mv, ss, rfl, HM.out.later (by (with_reducible (repeat (first | exact HB0.out | apply bel_alloc | apply bel_put | apply bel_set | apply Below.drew | apply below_drewN | omega)))), Mg.of_below (by (with_reducible (repeat (first | exact HB0.out | apply bel_alloc | apply bel_put | apply bel_set | apply Below.drew | apply below_drewN | omega)))), (Laid.id hn).iff (fun s i j => tk1 s f kids lo hi i j), by omega⟩
    · go_wp2_with fail
      refine (add_any ⟨2, f, next, 0⟩ P B mv ss _ (HM.out.later (by (with_reducible (repeat (first | exact HB0.out | apply bel_alloc | apply bel_put | apply bel_set | apply Below.drew | apply below_drewN | omega))))) hl4 (by simp; omega)).mono ?_
      rintro e w4 ⟨mv4, rfl, hM4, hG4⟩
      have HA := hidden (lay_one (K := 2 * sizeN (.mk 2 f kids lo hi) - 1) hM4 hG4 (by (with_reducible (repeat (first | exact HB0.out | apply bel_alloc | apply bel_put | apply bel_set | apply Below.drew | apply below_drewN | omega)))) (Laid.set f hn) (by have := HPO.out; omega) (fun s i j => tk2 s f kids lo hi i j))
      clear hM4 hG4
      go_wp2_with fail
      go_ret
      exact HA.out
    · go_wp2_with fail
      refine (layAll_of N HIH.out m kids HKS.out _ P B mv ss next _ (HK.out.later (by (with_reducible (repeat (first | exact HB0.out | apply bel_alloc | apply bel_put | apply bel_set | apply Below.drew | apply below_drewN | omega))))) (HM.out.later (by (with_reducible (repeat (first | exact HB0.out | apply bel_alloc | apply bel_put | apply bel_set | apply Below.drew | apply below_drewN | omega))))) hn (by simp; omega) (by have := HSZ.out; have := HS1.out (by decide); omega) hxb).mono ?_
      rintro e w4 hans
      have HA := hidden (show LayAns P B mv ss next (fun s => tk s (.mk 3 f kids lo hi)) (2 * sizeN (.mk 3 f kids lo hi) - 1) w e w4 from hans.from (by (with_reducible (repeat (first | exact HB0.out | apply bel_alloc | apply bel_put | apply bel_set | apply Below.drew | apply below_drewN | omega)))) (by have := HS1.out (by decide); omega) (fun s i j => tk3 s f kids lo hi i j))
      obtain ⟨q, mv', ss', rfl, _⟩ := hans
      go_wp2_with fail
      go_ret
      exact HA.out
    · go_wp2_with fail
      refine (layEither_of N HIH.out m kids (fun e => by rw [e] at hk2; simp at hk2) HKS.out _ P B mv ss next _ (HK.out.later (by (with_reducible (repeat (first | exact HB0.out | apply bel_alloc | apply bel_put | apply bel_set | apply Below.drew | apply below_drewN | omega))))) (HM.out.later (by (with_reducible (repeat (first | exact HB0.out | apply bel_alloc | apply bel_put | apply bel_set | apply Below.drew | apply below_drewN | omega))))) hn (by simp; omega) (by have := HSZ.out; have := HS1.out (by decide); omega) hxb).mono ?_
      rintro e w4 hans
      have HA := hidden (show LayAns P B mv ss next (fun s => tk s (.mk 4 f kids lo hi)) (2 * sizeN (.mk 4 f kids lo hi) - 1) w e w4 from hans.from (by (with_reducible (repeat (first | exact HB0.out | apply bel_alloc | apply bel_put | apply bel_set | apply Below.drew | apply below_drewN | omega)))) (by have := HS1.out (by decide); omega) (fun s i j => tk4 s f kids lo hi i j))
      obtain ⟨q, mv', ss', rfl, _⟩ := hans
      go_wp2_with fail
      go_ret
      exact HA.out
    · obtain ⟨d, rfl⟩ : ∃ d, kids = [d] := by
        cases kids with
        | nil => simp at hk1
        | cons d l =>
          cases l with
          | nil => exact ⟨d, rfl⟩
          | cons d2 l => simp at hk1
      go_wp2_with fail
      refine (layTimes_of d (HIH.out d (HKS.out d (by simp)).1) m (HKS.out d (by simp)).2 f lo hi hok _ P B mv ss next _ (HNODE.out.later (by (with_reducible (repeat (first | exact HB0.out | apply bel_alloc | apply bel_put | apply bel_set | apply Below.drew | apply below_drewN | omega))))) (HM.out.later (by (with_reducible (repeat (first | exact HB0.out | apply bel_alloc | apply bel_put | apply bel_set | apply Below.drew | apply below_drewN | omega))))) hn (by simp; omega) HSZ.out).mono ?_
      rintro e w4 hans
      have HA := hidden (show LayAns P B mv ss next (fun s => tk s (.mk 5 f [d] lo hi)) (2 * sizeN (.mk 5 f [d] lo hi) - 1) w e w4 from hans.from (by (with_reducible (repeat (first | exact HB0.out | apply bel_alloc | apply bel_put | apply bel_set | apply Below.drew | apply below_drewN | omega)))) (Nat.le_refl _) (fun s i j => Iff.rfl))
      obtain ⟨q, mv', ss', rfl, _⟩ := hans
      go_wp2_with fail
      go_ret
      exact HA.out
    · go_wp2_with fail
      refine (add_plain 3 next 0 P B mv ss _ (HM.out.later (by (with_reducible (repeat (first | exact HB0.out | apply bel_alloc | apply bel_put | apply bel_set | apply Below.drew | apply below_drewN | omega))))) hl4 (by simp; omega)).mono ?_
      rintro e w4 ⟨mv4, rfl, hM4, hG4⟩
      have HA := hidden (lay_one (K := 2 * sizeN (.mk 6 f kids lo hi) - 1) hM4 hG4 (by (with_reducible (repeat (first | exact HB0.out | apply bel_alloc | apply bel_put | apply bel_set | apply Below.drew | apply below_drewN | omega)))) (Laid.begin none_ hn) (by have := HPO.out; omega) (fun s i j => tk6 s f kids lo hi i j))
      clear hM4 hG4
      go_wp2_with fail
      go_ret
      exact HA.out
    · go_wp2_with fail
      refine (add_plain 4 next 0 P B mv ss _ (HM.out.later (by (with_reducible (repeat (first | exact HB0.out | apply bel_alloc | apply bel_put | apply bel_set | apply Below.drew | apply below_drewN | omega))))) hl4 (by simp; omega)).mono ?_
      rintro e w4 ⟨mv4, rfl, hM4, hG4⟩
      have HA := hidden (lay_one (K := 2 * sizeN (.mk 7 f kids lo hi) - 1) hM4 hG4 (by (with_reducible (repeat (first | exact HB0.out | apply bel_alloc | apply bel_put | apply bel_set | apply Below.drew | apply below_drewN | omega)))) (Laid.fin none_ hn) (by have := HPO.out; omega) (fun s i j => tk7 s f kids lo hi i j))
      clear hM4 hG4
      go_wp2_with fail
      go_ret
      exact HA.out

end Go.Proofs.Ytjlihidmohokhaa
