
/-
  What the document's own Then and Rest answer at any steps that lie in memory; conditions: the lists' and texts' lengths.
-/
import Derived.Test.YtmbalnjobcgpkaaCPWalk
import Derived.Test.YtmbalnjobcgpkaaOPNorm
import Derived.Test.YtmbalnjobcgpkaaOFacts
namespace Go.Proofs.Ytmbalnjobcgpkaa
open Go.RowKit Go.Proofs.Ytmbalnjobcgpkaa.Ln Go.Proofs.Ytmbalnjobcgpkaa.Ol

theorem wk_len (f : Nat) : ∀ (e : Bool) (p q : List Oq) (r : List (Oq × Int) × Bool), Ok p → Ok q → wk f e p q = some r → r.1.length ≤ p.length + q.length := by
  induction f with
  | zero => intro e p q r _ _ h; cases h
  | succ f ih =>
    intro e p q r op oq h
    have hless := onn_less op oq
    rw [wk] at h
    split at h
    · cases h; simp
    · rename_i hne
      split at h
      · rename_i h3
        obtain ⟨r', h1, rfl⟩ := Option.map_eq_some_iff.1 h
        have := ih e _ _ r' op.tail oq h1
        cases p with
        | nil => simp [hdO] at h3
        | cons x p => simp at this ⊢; omega
      · split at h
        · rename_i h4
          obtain ⟨r', h1, rfl⟩ := Option.map_eq_some_iff.1 h
          have := ih e _ _ r' op oq.tail h1
          cases q with
          | nil => simp [hdO] at h4
          | cons x q => simp at this ⊢; omega
        · split at h
          · cases h
          · split at h
            · cases h
            · obtain ⟨r', h1, rfl⟩ := Option.map_eq_some_iff.1 h
              have hN := wkN_pos op.hd.1 oq.hd.1
              have := ih _ _ _ r' (op.onn _ hN) (oq.onn _ hN) h1
              have h2 := hless hne
              have h3 := wkO_len (hdO p) (hdO q) (wkN (hdO p) (hdO q))
              rw [List.length_append]
              omega
theorem fit_hd {l : List Oq} (h : Fit l) : (hdO l).2.2.length ≤ 140737488355328 := by
  cases l with
  | nil => simp [hdO]
  | cons x l => exact h x (by simp)
theorem fit_tl {l : List Oq} (h : Fit l) : Fit l.tail := fun x hx => h x (List.mem_of_mem_tail hx)
theorem wkO_fit {x y : Oq} {n : Int} (hx : x.2.2.length ≤ 140737488355328) (hy : y.2.2.length ≤ 140737488355328) : ∀ z ∈ wkO x y n, z.1.2.2.length ≤ 140737488355328 := by
  unfold wkO
  intro z hz
  split at hz
  · simp at hz; subst hz; simp
  · split at hz
    · cases hz
    · split at hz
      · simp at hz; subst hz; exact hx
      · split at hz
        · simp at hz; subst hz; exact hy
        · split at hz
          · simp at hz; subst hz; exact hy
          · simp at hz; subst hz; exact hx
theorem wk_fit (f : Nat) : ∀ (e : Bool) (p q : List Oq) (r : List (Oq × Int) × Bool), Fit p → Fit q → wk f e p q = some r → ∀ z ∈ r.1, z.1.2.2.length ≤ 140737488355328 := by
  induction f with
  | zero => intro e p q r _ _ h; cases h
  | succ f ih =>
    intro e p q r fp fq h
    rw [wk] at h
    split at h
    · cases h; intro z hz; cases hz
    · split at h
      · obtain ⟨r', h1, rfl⟩ := Option.map_eq_some_iff.1 h
        intro z hz
        rcases List.mem_cons.1 hz with rfl | hz
        · exact fit_hd fp
        · exact ih e _ _ r' (fit_tl fp) fq h1 z hz
      · split at h
        · obtain ⟨r', h1, rfl⟩ := Option.map_eq_some_iff.1 h
          intro z hz
          rcases List.mem_cons.1 hz with rfl | hz
          · exact fit_hd fq
          · exact ih e _ _ r' fp (fit_tl fq) h1 z hz
        · split at h
          · cases h
          · split at h
            · cases h
            · obtain ⟨r', h1, rfl⟩ := Option.map_eq_some_iff.1 h
              intro z hz
              rcases List.mem_append.1 hz with hz | hz
              · exact wkO_fit (fit_hd fp) (fit_hd fq) z hz
              · exact ih _ _ _ r' (fit_onn fp) (fit_onn fq) h1 z hz
theorem byO_fit {f : Nat} {e : Bool} {p q : List Oq} {r : List (Oq × Int) × Bool} (fp : Fit p) (fq : Fit q) (h : wk f e p q = some r) : Fit (byO r) := by
  intro x hx
  obtain ⟨z, hz, rfl⟩ := List.mem_map.1 hx
  exact wk_fit f e p q r fp fq h z hz
theorem nrm_fit {xs : List Oq} (h : Fit xs) : Fit (nrm xs) := fun y hy => by
  obtain ⟨x, hx, e⟩ := nrm_text xs y hy
  rw [e]; exact h x hx
theorem grown_nil {w W : World} {v' : Value} (h : Adds w W (.slice none 0 0) v') : Below w.heap.size w W := ⟨h.1.os, h.1.tape, h.1.output, h.1.size, fun j hj => h.1.block j hj (fun e => by cases e)⟩
theorem right_len {p : List Oq} (h : right p = true) : p.length ≤ 4294967296 := by
  have h1 := len_tot (right_al0 h)
  obtain ⟨_, _, _, h4, h5⟩ := right_parts h
  omega

set_option maxRecDepth 3000 in
set_option maxHeartbeats 8000000 in
theorem pthn_any (v u : Value) (p q : List Oq) (w : World) (hP : OpsAt w v p) (hQ : OpsAt w u q) (hlp : p.length ≤ 4398046511104) (hlq : q.length ≤ 4398046511104) (hfp : Fit p) (hfq : Fit q) :
    Calls Try.prog 18 #[v, u] w fun e w' => ∃ v', e = .returned (.tuple #[v', .bool (thn p q).isSome]) ∧ OpsAt w' v' ((thn p q).getD []) ∧ Below w.heap.size w w' := by
  have HP := hidden hP
  have HQ := hidden hQ
  have HFP := hidden hfp
  have HFQ := hidden hfq
  obtain ⟨ao, cap, rfl⟩ := hP.shape
  obtain ⟨bo, cap2, rfl⟩ := hQ.shape
  clear hP hQ hfp hfq
  cases hrp : right p with
  | false =>
    have HT := hidden (show thn p q = none by unfold thn; rw [if_neg (by simp [hrp])])
    have HRP := hidden hrp
    clear hrp
    go_enter Try.func18, Try.ntmps18
    go_wp2_with fail
    refine (pright_any _ p w HP.out hlp HFP.out).mono ?_
    rw [HRP.out]
    rintro e w2 ⟨rfl, hb⟩
    have HB2 := hidden hb
    clear hb
    go_wp2_with fail
    go_ret2
    exact ⟨_, by rw [HT.out]; rfl, by rw [HT.out]; exact OpsAt.nil _ _ _, HB2.out⟩
  | true =>
    have HRP := hidden hrp
    cases hrq : right q with
    | false =>
      have HT := hidden (show thn p q = none by unfold thn; rw [if_neg (by simp [hrq])])
      have HRQ := hidden hrq
      clear hrp hrq
      go_enter Try.func18, Try.ntmps18
      go_wp2_with fail
      refine (pright_any _ p w HP.out hlp HFP.out).mono ?_
      rw [HRP.out]
      rintro e w2 ⟨rfl, hb⟩
      have HB2 := hidden hb
      have HQ2 := hidden (HQ.out.later hb)
      clear hb
      go_wp2_with fail
      refine (pright_any _ q w2 HQ2.out hlq HFQ.out).mono ?_
      rw [HRQ.out]
      rintro e w3 ⟨rfl, hb⟩
      have HB3 := hidden (HB2.out.trans (hb.mono HB2.out.size))
      clear hb
      go_wp2_with fail
      go_ret2
      exact ⟨_, by rw [HT.out]; rfl, by rw [HT.out]; exact OpsAt.nil _ _ _, HB3.out⟩
    | true =>
      have HRQ := hidden hrq
      have HT := hidden (fun R (h : wk (p.length + q.length + 1) false p q = R) => show thn p q = R.bind (fun r => if right (nrm (byO r)) = true then some (nrm (byO r)) else none) by
        unfold thn
        rw [if_pos ⟨hrp, hrq⟩, h]
        cases R <;> rfl)
      have HOP := hidden (right_ok hrp)
      have HOQ := hidden (right_ok hrq)
      have HLL := hidden (show p.length + q.length ≤ 1099511627775 by have := right_len hrp; have := right_len hrq; omega)
      have HTO := hidden (fun r (h : wk (p.length + q.length + 1) false p q = some r) => byO_tot hrp hrq h)
      clear hrp hrq
      go_enter Try.func18, Try.ntmps18
      go_wp2_with fail
      refine (pright_any _ p w HP.out hlp HFP.out).mono ?_
      rw [HRP.out]
      rintro e w2 ⟨rfl, hb⟩
      have HB2 := hidden hb
      have HP2 := hidden (HP.out.later hb)
      have HQ2 := hidden (HQ.out.later hb)
      clear hb
      go_wp2_with fail
      refine (pright_any _ q w2 HQ2.out hlq HFQ.out).mono ?_
      rw [HRQ.out]
      rintro e w3 ⟨rfl, hb⟩
      have HB3 := hidden (HB2.out.trans (hb.mono HB2.out.size))
      have HP3 := hidden (HP2.out.later hb)
      have HQ3 := hidden (HQ2.out.later hb)
      clear hb HB2 HP2 HQ2
      go_wp2_with fail
      refine (pwalk_any _ _ p q w3 HP3.out HQ3.out HLL.out HOP.out HOQ.out HFP.out HFQ.out).mono ?_
      obtain ⟨R, hR⟩ : ∃ R, wk (p.length + q.length + 1) false p q = R := ⟨_, rfl⟩
      rw [hR]
      rintro e w4 ⟨he, hb⟩
      have HB4 := hidden (HB3.out.trans (hb.mono HB3.out.size))
      clear hb HB3 HP3 HQ3
      cases R with
      | none =>
        have HTN := hidden (show thn p q = none from HT.out _ hR)
        clear hR
        simp only at he
        subst he
        go_wp2_with fail
        refine (pops_any _ [] w4 (Or.inl ⟨rfl, none, 0, rfl, fun _ => rfl⟩) (by simp)).mono ?_
        rintro e w5 ⟨v5, rfl, ho5, hb⟩
        have HB5 := hidden (HB4.out.trans (hb.mono HB4.out.size))
        have HO5 := hidden ho5
        clear hb ho5
        rw [List.map_nil] at HO5
        obtain ⟨a5, c5, he5⟩ := HO5.out.shape
        simp only [List.length_nil] at he5
        subst he5
        go_wp2_with fail
        refine (pnorm_any _ [] w5 HO5.out (by simp) (by simp) (by simp [tot])).mono ?_
        rintro e w6 ⟨v6, rfl, ho6, hb⟩
        have HB6 := hidden (HB5.out.trans (hb.mono HB5.out.size))
        obtain ⟨a6, n6, c6, rfl⟩ : ∃ a n c, v6 = .slice a n c := by obtain ⟨a, c, e⟩ := ho6.shape; exact ⟨_, _, _, e⟩
        clear hb ho6
        go_wp2_with fail
        go_ret2
        exact ⟨_, by rw [HTN.out]; rfl, by rw [HTN.out]; exact OpsAt.nil _ _ _, HB6.out⟩
      | some r =>
        have HT2 := hidden (show thn p q = if right (nrm (byO r)) = true then some (nrm (byO r)) else none from HT.out _ hR)
        have HAL := hidden (byO_al HOP.out HOQ.out hR)
        have HFB := hidden (byO_fit HFP.out HFQ.out hR)
        have HLB := hidden (show r.1.length ≤ 1099511627776 by have := wk_len _ _ _ _ _ HOP.out HOQ.out hR; have := HLL.out; omega)
        have HTT := hidden (show tot 3 (byO r) ≤ 549755813888 by have := HTO.out r hR; omega)
        have HLN := hidden (show (nrm (byO r)).length ≤ 4398046511104 by
          have h1 := nfo_len (byO r)
          have h2 := HLB.out
          unfold nrm; rw [List.length_append]
          have h3 : (byO r).length = r.1.length := List.length_map _
          omega)
        clear hR
        obtain ⟨vo, rfl, hba⟩ := he
        have HBA := hidden hba
        obtain ⟨va, vn, vc, rfl⟩ : ∃ a n c, vo = .slice a n c := by obtain ⟨a, c, e⟩ := hba.shape; exact ⟨_, _, _, e⟩
        clear hba
        obtain ⟨rm, hrm⟩ : ∃ rm, r.2 = rm := ⟨_, rfl⟩
        rw [hrm]
        clear hrm
        go_wp2_with fail
        refine (pops_any _ r.1 w4 HBA.out HLB.out).mono ?_
        rintro e w5 ⟨v5, rfl, ho5, hb⟩
        have HB5 := hidden (HB4.out.trans (hb.mono HB4.out.size))
        have HO5 := hidden (show OpsAt w5 v5 (byO r) from ho5)
        obtain ⟨a5, n5, c5, rfl⟩ : ∃ a n c, v5 = .slice a n c := by obtain ⟨a, c, e⟩ := ho5.shape; exact ⟨_, _, _, e⟩
        clear hb ho5
        go_wp2_with fail
        refine (pnorm_any _ (byO r) w5 HO5.out (by have := HLB.out; have h3 : (byO r).length = r.1.length := List.length_map _; omega) HAL.out HTT.out).mono ?_
        rintro e w6 ⟨v6, rfl, ho6, hb⟩
        have HB6 := hidden (HB5.out.trans (hb.mono HB5.out.size))
        have HO6 := hidden ho6
        obtain ⟨a6, n6, c6, rfl⟩ : ∃ a n c, v6 = .slice a n c := by obtain ⟨a, c, e⟩ := ho6.shape; exact ⟨_, _, _, e⟩
        clear hb ho6
        go_wp2_with fail
        refine (pright_any _ (nrm (byO r)) w6 HO6.out HLN.out (nrm_fit HFB.out)).mono ?_
        obtain ⟨b, hb0⟩ : ∃ b, right (nrm (byO r)) = b := ⟨_, rfl⟩
        rw [hb0]
        rw [hb0] at HT2
        clear hb0
        rintro e w7 ⟨rfl, hb⟩
        have HB7 := hidden (HB6.out.trans (hb.mono HB6.out.size))
        have HO7 := hidden (HO6.out.later hb)
        clear hb
        cases b with
        | false =>
          go_wp2_with fail
          go_ret2
          exact ⟨_, by rw [HT2.out]; rfl, by rw [HT2.out]; exact OpsAt.nil _ _ _, HB7.out⟩
        | true =>
          go_wp2_with fail
          go_ret2
          exact ⟨_, by rw [HT2.out]; rfl, by rw [HT2.out]; exact HO7.out, HB7.out⟩

/-- steps without a Skip at the end -/
def rst (l : List Oq) : List Oq := (l.reverse.dropWhile fun x => x.1 == 1).reverse
theorem rst_skip {l : List Oq} {k : Nat} {x : Oq} (h : l[k]? = some x) (h1 : x.1 = 1) : rst (l.take (k + 1)) = rst (l.take k) := by
  unfold rst; rw [take_snoc h]; simp [h1]
theorem rst_not {l : List Oq} {k : Nat} {x : Oq} (h : l[k]? = some x) (h1 : ¬ x.1 = 1) : rst (l.take (k + 1)) = l.take (k + 1) := by
  unfold rst; rw [take_snoc h]; simp [h1]

end Go.Proofs.Ytmbalnjobcgpkaa
