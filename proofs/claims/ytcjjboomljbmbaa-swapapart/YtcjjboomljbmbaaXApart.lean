
/-
  Plain laws of two rows of lines that come, far apart, in the other order; no condition but those that each states.
-/
import Derived.Test.YtcjjboomljbmbaaXNear
namespace Go.Proofs.Ytcjjboomljbmbaa.Ol
open Go.Proofs.Ytcjjboomljbmbaa.Ln

/-- so many lines on, so many that come -/
def cm (m : Nat) (t : Tx) : List Oq := List.replicate m (4, 0, t)
def rR (n m : Nat) (t : Tx) : List Oq := nS n ++ cm m t
theorem ex_cm (m : Nat) (t : Tx) : ex (cm m t) = List.replicate m (Ut.i t) := by
  unfold cm
  induction m with
  | zero => rfl
  | succ m ih => rw [List.replicate_succ, List.replicate_succ, ex, ih, ex1_i]; rfl
theorem ex_rR (n m : Nat) (t : Tx) : ex (rR n m t) = List.replicate n Ut.s ++ List.replicate m (Ut.i t) := by unfold rR; rw [ex_app, ex_nS, ex_cm]
def kp (m : Nat) (t : Tx) : List Oq := List.replicate m (2, 0, t)
theorem ex_kp (m : Nat) (t : Tx) : ex (kp m t) = List.replicate m (Ut.k t) := by
  unfold kp
  induction m with
  | zero => rfl
  | succ m ih => rw [List.replicate_succ, List.replicate_succ, ex, ih, ex1_k]; rfl
theorem cm_al {m : Nat} {t : Tx} (h : rt t = true) : ∀ x ∈ cm m t, al0 x := by
  intro x hx
  obtain ⟨_, rfl⟩ := List.mem_replicate.1 hx
  exact Or.inr ⟨Or.inr (Or.inr rfl), rfl, h⟩
theorem kp_al {m : Nat} {t : Tx} (h : rt t = true) : ∀ x ∈ kp m t, al0 x := by
  intro x hx
  obtain ⟨_, rfl⟩ := List.mem_replicate.1 hx
  exact Or.inr ⟨Or.inl rfl, rfl, h⟩
theorem app_al {a b : List Oq} (h1 : ∀ x ∈ a, al0 x) (h2 : ∀ x ∈ b, al0 x) : ∀ x ∈ a ++ b, al0 x := by
  intro x hx
  rcases List.mem_append.1 hx with hx | hx
  · exact h1 x hx
  · exact h2 x hx
theorem right_rR {n m : Nat} {t : Tx} (hn : n ≤ 10000) (hm : m ≤ 10000) (ht : rt t = true) (hc : cl t = true) : right (rR n m t) = true := by
  refine right_of_u ?_ ?_
  · unfold rR cm
    rw [List.all_append, nS_alone n (by omega), Bool.true_and, List.all_eq_true]
    intro x hx
    obtain ⟨_, rfl⟩ := List.mem_replicate.1 hx
    simp [alone, ht]
  · rw [ex_rR]
    refine RU_of ?_ ?_
    · rw [clo_app, clo_nS, clo_rep _ _ (by simp [clo, hc])]; rfl
    · simp; omega
theorem ct_ins {t : Tx} (ht : cl t = true) (m : Nat) (p q : List Ut) : ct false (List.replicate m (Ut.i t) ++ p) (List.replicate m Ut.s ++ q) = (ct false p q).map fun r => (List.replicate m (Tg.i1 t) ++ r.1, r.2) := by
  induction m with
  | zero => simp
  | succ m ih =>
    rw [List.replicate_succ, List.replicate_succ, List.replicate_succ, List.cons_append, List.cons_append, ct_is ht, ih, Option.map_map]
    rfl
theorem ct_inse {t : Tx} (ht : cl t = true) (m : Nat) : ct false (List.replicate m (Ut.i t)) [] = some (List.replicate m (Tg.i1 t), false) := by
  induction m with
  | zero => exact ct_nil false
  | succ m ih => rw [List.replicate_succ, List.replicate_succ, ct_ie ht, ih]; rfl
theorem ct_com {t : Tx} (m : Nat) (p q : List Ut) (h : isD p = false) : ct false p (List.replicate m (Ut.i t) ++ q) = (ct false p q).map fun r => (List.replicate m (Tg.i2 t) ++ r.1, r.2) := by
  induction m with
  | zero => simp
  | succ m ih =>
    rw [List.replicate_succ, List.replicate_succ, List.cons_append, ct_i _ _ _ _ h, ih, Option.map_map]
    rfl
def pL (n far many more : Nat) (t u : Tx) : List Tg := List.replicate n Tg.s ++ (List.replicate many (Tg.i1 t) ++ (List.replicate far Tg.s ++ List.replicate more (Tg.i2 u)))
def qL (n far many more : Nat) (t u : Tx) : List Tg := List.replicate n Tg.s ++ (List.replicate more (Tg.i2 u) ++ (List.replicate far Tg.s ++ List.replicate many (Tg.i1 t)))
theorem ct_apart {t u : Tx} (ht : cl t = true) (n far many more : Nat) : ct false (ex (rR n many t)) (ex (rR (n + many + far) more u)) = some (pL n far many more t u, false) := by
  have h0 : List.replicate many (Ut.i t) = List.replicate many (Ut.i t) ++ [] := (List.append_nil _).symm
  have h1 : ct false [] (List.replicate more (Ut.i u)) = some (List.replicate more (Tg.i2 u), false) := by
    have h := ct_com (t := u) more [] [] rfl
    rw [List.append_nil, ct_nil] at h
    rw [h]; simp
  rw [ex_rR, ex_rR, rep_add, rep_add, List.append_assoc, List.append_assoc, ct_reps, h0, ct_ins ht, ct_repsL, h1]
  rfl
theorem ct_behind {t u : Tx} (ht : cl t = true) (n far many more : Nat) (hf : 1 ≤ far) : ct false (ex (rR (n + far) many t)) (ex (rR n more u)) = some (qL n far many more t u, false) := by
  have h0 : List.replicate more (Ut.i u) = List.replicate more (Ut.i u) ++ [] := (List.append_nil _).symm
  have hd : isD (List.replicate far Ut.s ++ List.replicate many (Ut.i t)) = false := by
    obtain ⟨f, rfl⟩ : ∃ f, far = f + 1 := ⟨far - 1, by omega⟩
    rfl
  rw [ex_rR, ex_rR, rep_add, List.append_assoc, ct_reps, h0, ct_com _ _ _ hd, ct_repsR, ct_inse ht]
  rfl
theorem fs_i1 (m : Nat) (t : Tx) : fs (List.replicate m (Tg.i1 t)) = [] := by
  induction m with
  | zero => rfl
  | succ m ih => rw [List.replicate_succ, fs, ih]
theorem fs_i2 (m : Nat) (t : Tx) : fs (List.replicate m (Tg.i2 t)) = List.replicate m (Ut.i t) := by
  induction m with
  | zero => rfl
  | succ m ih => rw [List.replicate_succ, fs, ih, List.replicate_succ]
theorem sn_i1 (m : Nat) (t : Tx) : sn (List.replicate m (Tg.i1 t)) = List.replicate m (Ut.i t) := by
  induction m with
  | zero => rfl
  | succ m ih => rw [List.replicate_succ, sn, ih, List.replicate_succ]
theorem sn_i2 (m : Nat) (t : Tx) : sn (List.replicate m (Tg.i2 t)) = List.replicate m (Ut.k t) := by
  induction m with
  | zero => rfl
  | succ m ih => rw [List.replicate_succ, sn, ih, List.replicate_succ]
theorem nb_run {x : Tg} (m : Nat) : ∀ (j : Nat) (l : List Tg), (j = 0 ∨ j = tag x) → (∀ i, nb i l = false) → nb j (List.replicate m x ++ l) = false := by
  induction m with
  | zero => intro j l _ h; exact h j
  | succ m ih =>
    intro j l hj h
    rw [List.replicate_succ, List.cons_append]
    exact nb_mk (by omega) (ih (tag x) l (Or.inr rfl) h)
theorem nb_gap {far : Nat} (hf : 1 ≤ far) {l : List Tg} (h : nb 0 l = false) : ∀ i, nb i (List.replicate far Tg.s ++ l) = false := by
  intro i
  obtain ⟨f, rfl⟩ : ∃ f, far = f + 1 := ⟨far - 1, by omega⟩
  rw [nb_rep]; exact h
theorem pL_nb {n far many more : Nat} {t u : Tx} (hf : 1 ≤ far) : nb 0 (pL n far many more t u) = false := by
  unfold pL
  rw [nb_reps]
  refine nb_run many 0 _ (Or.inl rfl) (nb_gap hf ?_)
  have := nb_run (x := Tg.i2 u) more 0 [] (Or.inl rfl) (fun _ => rfl)
  rwa [List.append_nil] at this
theorem qL_nb {n far many more : Nat} {t u : Tx} (hf : 1 ≤ far) : nb 0 (qL n far many more t u) = false := by
  unfold qL
  rw [nb_reps]
  refine nb_run more 0 _ (Or.inl rfl) (nb_gap hf ?_)
  have := nb_run (x := Tg.i1 t) many 0 [] (Or.inl rfl) (fun _ => rfl)
  rwa [List.append_nil] at this
theorem nod_rep (m : Nat) (x : Ut) (h : ∀ t, x ≠ Ut.d t) : ∀ t, Ut.d t ∉ List.replicate m x := fun t ht => h t (List.mem_replicate.1 ht).2.symm
theorem nod_app {a b : List Ut} (h1 : ∀ t, Ut.d t ∉ a) (h2 : ∀ t, Ut.d t ∉ b) : ∀ t, Ut.d t ∉ a ++ b := fun t ht => (List.mem_append.1 ht).elim (h1 t) (h2 t)
theorem unk_i (m : Nat) (t : Tx) : unk (List.replicate m (Ut.i t)) = List.replicate m (Ut.i t) := by
  induction m with
  | zero => rfl
  | succ m ih =>
    rw [List.replicate_succ]
    show Ut.i t :: unk (List.replicate m (Ut.i t)) = _
    rw [ih]
theorem unk_k (m : Nat) (t : Tx) : unk (List.replicate m (Ut.k t)) = List.replicate m Ut.s := by
  induction m with
  | zero => rfl
  | succ m ih => rw [List.replicate_succ, unk, ih, List.replicate_succ]
/-- trimmed to nothing: of what is known around the lines alone stay -/
theorem nfo_rR (n m : Nat) (t : Tx) : nfo (rR n m t) = (nS n, cm m t) := by
  induction m with
  | zero =>
    unfold rR nS cm
    by_cases h : n = 0
    · subst h; rfl
    · rw [if_neg h]; simp [nfo, nst, stay]
  | succ m ih =>
    have h1 : rR n (m + 1) t = rR n m t ++ [(4, 0, t)] := by unfold rR cm; rw [List.replicate_succ', List.append_assoc]
    have h2 : nfo (rR n m t ++ [(4, 0, t)]) = nst (nfo (rR n m t)) (4, 0, t) := by simp [nfo, List.foldl_append]
    rw [h1, h2, ih]
    unfold cm
    rw [List.replicate_succ']
    simp [nst]
theorem nrm_rR (n m : Nat) (t : Tx) : nrm (rR n m t) = rR n m t := by unfold nrm; rw [nfo_rR]; rfl
theorem un1_rR (n m : Nat) (t : Tx) : (rR n m t).map un1 = rR n m t := by
  have : ∀ x ∈ rR n m t, un1 x = x := by
    intro x hx
    unfold rR nS cm at hx
    rcases List.mem_append.1 hx with hx | hx
    · split at hx
      · cases hx
      · simp at hx; subst hx; rfl
    · obtain ⟨_, rfl⟩ := List.mem_replicate.1 hx; rfl
  rw [List.map_congr_left this, List.map_id']
theorem tr0_rR (n m : Nat) (t : Tx) (hm : 1 ≤ m) : tr0 (rR n m t) = rR n m t := by
  unfold tr0
  rw [nrm_rR, un1_rR, nrm_rR]
  obtain ⟨k, rfl⟩ : ∃ k, m = k + 1 := ⟨m - 1, by omega⟩
  unfold rst rR cm
  rw [List.replicate_succ', ← List.append_assoc, List.reverse_append]
  simp
theorem rR_al {n m : Nat} {t : Tx} (ht : rt t = true) : ∀ x ∈ rR n m t, al0 x := app_al (nS_al n) (cm_al ht)
/-- a list that knows more is, trimmed, these -/
theorem tr0_to {P : List Oq} {n m k : Nat} {t : Tx} (hP : ∀ x ∈ P, al0 x) (ht : rt t = true) (hm : 1 ≤ m) (hd : ∀ t, Ut.d t ∉ ex P) (h : unk (ex P) = List.replicate n Ut.s ++ (List.replicate m (Ut.i t) ++ List.replicate k Ut.s)) : tr0 (nrm P) = rR n m t := by
  rw [← tr0_rR n m t hm]
  refine tr0_same (nrm_al0 hP) (rR_al ht) k ?_
  have hl : lin (ex (rR n m t)) = ex (rR n m t) := lin_nod _ (by rw [ex_rR]; exact nod_app (nod_rep _ _ (by intro t h; cases h)) (nod_rep _ _ (by intro t h; cases h)))
  rw [lin_nrm hP, lin_nod _ hd, h, hl, ex_rR, unk_app, unk_rep, unk_i, List.append_assoc]
theorem apart_swap {t u : Tx} {n far many more : Nat} (ht : rt t = true) (hu : rt u = true) (hct : cl t = true) (hcu : cl u = true) (hn : n ≤ 1000) (hf : far ≤ 1000) (hf1 : 1 ≤ far) (hm : many ≤ 20) (hm1 : 1 ≤ many) (ho : more ≤ 20) (ho1 : 1 ≤ more) :
    ∃ x y, swp (rR n many t) (rR (n + many + far) more u) = (x, y, 0) ∧ tr0 x = rR (n + far) more u ∧ tr0 y = rR n many t := by
  have e1 : ex (rR (n + far) more u) = fs (pL n far many more t u) := by
    rw [ex_rR, rep_add, List.append_assoc]; unfold pL; rw [fs_app, fs_app, fs_app, fs_reps, fs_i1, fs_reps, fs_i2]; rfl
  have e2 : ex (nS n ++ (cm many t ++ (nS far ++ kp more u))) = sn (pL n far many more t u) := by
    rw [ex_app, ex_app, ex_app, ex_nS, ex_nS, ex_cm, ex_kp]; unfold pL; rw [sn_app, sn_app, sn_app, sn_reps, sn_i1, sn_reps, sn_i2]
  have a1 : ∀ x ∈ rR (n + far) more u, al0 x := rR_al hu
  have a2 : ∀ x ∈ nS n ++ (cm many t ++ (nS far ++ kp more u)), al0 x := app_al (nS_al n) (app_al (cm_al ht) (app_al (nS_al far) (kp_al hu)))
  have c0 : ∀ m, clo (List.replicate m (Ut.i t)) = true := fun m => clo_rep m _ (by simp [clo, hct])
  have c1 : ∀ m, clo (List.replicate m (Ut.i u)) = true := fun m => clo_rep m _ (by simp [clo, hcu])
  have c2 : ∀ m, clo (List.replicate m (Ut.k u)) = true := fun m => clo_rep m _ (by simp [clo, hcu])
  refine ⟨_, _, swp_of (right_rR (by omega) (by omega) ht hct) (right_rR (by omega) (by omega) hu hcu) (ct_apart hct n far many more) ?_ ?_ ?_ (pL_nb hf1) a1 a2 (by rw [e1]) (by rw [e2]), ?_, ?_⟩
  · unfold pL
    simp only [List.map_append, List.map_replicate, tu]
    exact RU_of (by simp only [clo_app, clo_nS, c0, c1]; rfl) (by simp; omega)
  · rw [← e1, ex_rR]
    exact RU_of (by simp only [clo_app, clo_nS, c1]; rfl) (by simp; omega)
  · rw [← e2, ex_app, ex_app, ex_app, ex_nS, ex_nS, ex_cm, ex_kp]
    exact RU_of (by simp only [clo_app, clo_nS, c0, c2]; rfl) (by simp; omega)
  · rw [nrm_rR, tr0_rR _ _ _ ho1]
  · refine tr0_to (k := far + more) a2 ht hm1 ?_ ?_
    · rw [ex_app, ex_app, ex_app, ex_nS, ex_nS, ex_cm, ex_kp]
      exact nod_app (nod_rep _ _ (by intro t h; cases h)) (nod_app (nod_rep _ _ (by intro t h; cases h)) (nod_app (nod_rep _ _ (by intro t h; cases h)) (nod_rep _ _ (by intro t h; cases h))))
    · rw [ex_app, ex_app, ex_app, ex_nS, ex_nS, ex_cm, ex_kp, unk_app, unk_app, unk_app, unk_rep, unk_rep, unk_i, unk_k, rep_add]
theorem behind_swap {t u : Tx} {n far many more : Nat} (ht : rt t = true) (hu : rt u = true) (hct : cl t = true) (hcu : cl u = true) (hn : n ≤ 1000) (hf : far ≤ 1000) (hf1 : 1 ≤ far) (hm : many ≤ 20) (hm1 : 1 ≤ many) (ho : more ≤ 20) (ho1 : 1 ≤ more) :
    ∃ x y, swp (rR (n + far) many t) (rR n more u) = (x, y, 0) ∧ tr0 x = rR n more u ∧ tr0 y = rR (n + more + far) many t := by
  have e1 : ex (nS n ++ (cm more u ++ nS far)) = fs (qL n far many more t u) := by
    rw [ex_app, ex_app, ex_nS, ex_nS, ex_cm]; unfold qL; rw [fs_app, fs_app, fs_app, fs_reps, fs_i1, fs_reps, fs_i2, List.append_nil]
  have e2 : ex (nS n ++ (kp more u ++ (nS far ++ cm many t))) = sn (qL n far many more t u) := by
    rw [ex_app, ex_app, ex_app, ex_nS, ex_nS, ex_cm, ex_kp]; unfold qL; rw [sn_app, sn_app, sn_app, sn_reps, sn_i1, sn_reps, sn_i2]
  have a1 : ∀ x ∈ nS n ++ (cm more u ++ nS far), al0 x := app_al (nS_al n) (app_al (cm_al hu) (nS_al far))
  have a2 : ∀ x ∈ nS n ++ (kp more u ++ (nS far ++ cm many t)), al0 x := app_al (nS_al n) (app_al (kp_al hu) (app_al (nS_al far) (cm_al ht)))
  have c0 : ∀ m, clo (List.replicate m (Ut.i t)) = true := fun m => clo_rep m _ (by simp [clo, hct])
  have c1 : ∀ m, clo (List.replicate m (Ut.i u)) = true := fun m => clo_rep m _ (by simp [clo, hcu])
  have c2 : ∀ m, clo (List.replicate m (Ut.k u)) = true := fun m => clo_rep m _ (by simp [clo, hcu])
  refine ⟨_, _, swp_of (right_rR (by omega) (by omega) ht hct) (right_rR (by omega) (by omega) hu hcu) (ct_behind hct n far many more hf1) ?_ ?_ ?_ (qL_nb hf1) a1 a2 (by rw [e1]) (by rw [e2]), ?_, ?_⟩
  · unfold qL
    simp only [List.map_append, List.map_replicate, tu]
    exact RU_of (by simp only [clo_app, clo_nS, c0, c1]; rfl) (by simp; omega)
  · rw [← e1, ex_app, ex_app, ex_nS, ex_nS, ex_cm]
    exact RU_of (by simp only [clo_app, clo_nS, c1]; rfl) (by simp; omega)
  · rw [← e2, ex_app, ex_app, ex_app, ex_nS, ex_nS, ex_cm, ex_kp]
    exact RU_of (by simp only [clo_app, clo_nS, c0, c2]; rfl) (by simp; omega)
  · refine tr0_to (k := far) a1 hu ho1 ?_ ?_
    · rw [ex_app, ex_app, ex_nS, ex_nS, ex_cm]
      exact nod_app (nod_rep _ _ (by intro t h; cases h)) (nod_app (nod_rep _ _ (by intro t h; cases h)) (nod_rep _ _ (by intro t h; cases h)))
    · rw [ex_app, ex_app, ex_nS, ex_nS, ex_cm, unk_app, unk_app, unk_rep, unk_rep, unk_i]
  · refine tr0_to (k := 0) a2 ht hm1 ?_ ?_
    · rw [ex_app, ex_app, ex_app, ex_nS, ex_nS, ex_cm, ex_kp]
      exact nod_app (nod_rep _ _ (by intro t h; cases h)) (nod_app (nod_rep _ _ (by intro t h; cases h)) (nod_app (nod_rep _ _ (by intro t h; cases h)) (nod_rep _ _ (by intro t h; cases h))))
    · rw [ex_app, ex_app, ex_app, ex_nS, ex_nS, ex_cm, ex_kp, unk_app, unk_app, unk_app, unk_rep, unk_rep, unk_i, unk_k, rep_add (n + more) far, rep_add n more]
      simp only [List.append_assoc, List.replicate_zero, List.append_nil]
end Go.Proofs.Ytcjjboomljbmbaa.Ol
