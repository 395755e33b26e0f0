
/-
  Plain laws of two lists of steps of known shapes in the other order: single changes near each other, and rows of lines that come far apart; no condition but those that each states.
-/
import Derived.Test.YtcjjboomljbmbaaXRef
import Derived.Test.YtcjjboomljbmbaaXBack
namespace Go.Proofs.Ytcjjboomljbmbaa.Ol
open Go.Proofs.Ytcjjboomljbmbaa.Ln

/-- a row of units that may be a side's -/
def RU (u : List Ut) : Prop := ox u false = true ∧ nx u false = true ∧ su u3 u ≤ 2147483648 ∧ su u4 u ≤ 2147483648
theorem right_of_u {l : List Oq} (h1 : l.all alone = true) (hu : RU (ex l)) : right l = true := by
  have hal : ∀ x ∈ l, al0 x := fun x hx => al0_of (List.all_eq_true.1 h1 x hx)
  obtain ⟨u1, u2, u3', u4'⟩ := hu
  obtain ⟨s3, s4, _⟩ := su_facts l hal
  rw [s3] at u3'
  rw [s4] at u4'
  rw [← ox_ex l hal] at u1
  rw [← nx_ex l hal] at u2
  unfold right
  simp only [Bool.and_eq_true, decide_eq_true_eq]
  exact ⟨⟨⟨⟨h1, u1⟩, u2⟩, u3'⟩, u4'⟩
theorem swp_walk {p q : List Oq} {l : List Tg} (hp : right p = true) (hq : right q = true) (hc : ct false (ex p) (ex q) = some (l, false)) : ∃ r, wk (p.length + q.length + 1) false p q = some r ∧ exB r.1 = l ∧ r.2 = false := by
  have h := wk_ct (p.length + q.length + 1) false p q (right_ok hp) (right_ok hq) (Nat.lt_succ_self _)
  rw [hc] at h
  obtain ⟨r, h1, h2⟩ := Option.map_eq_some_iff.1 h
  simp only [Prod.mk.injEq] at h2
  exact ⟨r, h1, h2.1, h2.2⟩
/-- what both are in the other order, told by units -/
theorem swp_of {p q P1 P2 : List Oq} {l : List Tg} (hp : right p = true) (hq : right q = true) (hc : ct false (ex p) (ex q) = some (l, false)) (h0 : RU (l.map tu)) (h1 : RU (fs l)) (h2 : RU (sn l)) (hn : nb 0 l = false) (a1 : ∀ x ∈ P1, al0 x) (a2 : ∀ x ∈ P2, al0 x) (e1 : lin (ex P1) = lin (fs l)) (e2 : lin (ex P2) = lin (sn l)) : swp p q = (nrm P1, nrm P2, 0) := by
  obtain ⟨r, hw, hl, h3⟩ := swp_walk hp hq hc
  have wf := wk_wf _ _ _ _ _ (right_ok hp) (right_ok hq) hw
  have al := byO_al (right_ok hp) (right_ok hq) hw
  have af := fsO_al r.1 wf
  have as_ := snO_al r.1 wf
  have hb : right (nrm (byO r)) = true := (right_u al).2 (by
    show RU (ex (byO r))
    unfold byO; rw [← exB_tu, hl]; exact h0)
  have hf : right (nrm (fsO r.1)) = true := (right_u af).2 (by show RU (ex (fsO r.1)); rw [ex_fsO r.1 wf, hl]; exact h1)
  have hs : right (nrm (snO r.1)) = true := (right_u as_).2 (by show RU (ex (snO r.1)); rw [ex_snO r.1 wf, hl]; exact h2)
  have hnb : nbO 0 r.1 = false := by have h := nbO_nb r.1 wf 0; rw [hl, hn] at h; exact h
  have f1 : nrm (fsO r.1) = nrm P1 := nrm_same af a1 (by rw [ex_fsO r.1 wf, hl, e1])
  have f2 : nrm (snO r.1) = nrm P2 := nrm_same as_ a2 (by rw [ex_snO r.1 wf, hl, e2])
  rw [swp_at hp hq hw]
  simp only [swpR]
  rw [if_pos hb, if_neg (by rw [h3, hnb, hf, hs]; simp), f1, f2]
/-- side by side -/
theorem swp_by {p q : List Oq} {l : List Tg} (hp : right p = true) (hq : right q = true) (hc : ct false (ex p) (ex q) = some (l, false)) (h0 : RU (l.map tu)) (hn : nb 0 l = true) : swp p q = ([], [], 7) := by
  obtain ⟨r, hw, hl, h3⟩ := swp_walk hp hq hc
  have wf := wk_wf _ _ _ _ _ (right_ok hp) (right_ok hq) hw
  have al := byO_al (right_ok hp) (right_ok hq) hw
  have hb : right (nrm (byO r)) = true := (right_u al).2 (by
    show RU (ex (byO r))
    unfold byO; rw [← exB_tu, hl]; exact h0)
  have hnb : nbO 0 r.1 = true := by have h := nbO_nb r.1 wf 0; rw [hl, hn] at h; exact h
  rw [swp_at hp hq hw]
  simp only [swpR]
  rw [if_pos hb, if_pos (Or.inr (Or.inl hnb))]
/-- are all lines closed? -/
def clo : List Ut → Bool
  | [] => true
  | .s :: l => clo l
  | .k t :: l => cl t && clo l
  | .d t :: l => cl t && clo l
  | .i t :: l => cl t && clo l
theorem clo_app (a b : List Ut) : clo (a ++ b) = (clo a && clo b) := by
  induction a with
  | nil => rfl
  | cons x a ih => cases x <;> simp only [List.cons_append, clo, ih, Bool.and_assoc]
theorem clo_rep (n : Nat) (x : Ut) (h : clo [x] = true) : clo (List.replicate n x) = true := by
  induction n with
  | zero => rfl
  | succ n ih =>
    rw [List.replicate_succ, show x :: List.replicate n x = [x] ++ List.replicate n x from rfl, clo_app, h, ih]; rfl
theorem clo_side (l : List Ut) (h : clo l = true) : ox l false = true ∧ nx l false = true := by
  induction l with
  | nil => exact ⟨rfl, rfl⟩
  | cons x l ih =>
    cases x with
    | s => obtain ⟨h1, h2⟩ := ih h; exact ⟨by rw [ox_s, h1]; rfl, by rw [nx_s, h2]; rfl⟩
    | k t =>
      simp only [clo, Bool.and_eq_true] at h
      obtain ⟨h1, h2⟩ := ih h.2
      exact ⟨by rw [ox_k, h.1]; simpa using h1, by rw [nx_k, h.1]; simpa using h2⟩
    | d t =>
      simp only [clo, Bool.and_eq_true] at h
      obtain ⟨h1, h2⟩ := ih h.2
      exact ⟨by rw [ox_d, h.1]; simpa using h1, by rw [nx_d]; exact h2⟩
    | i t =>
      simp only [clo, Bool.and_eq_true] at h
      obtain ⟨h1, h2⟩ := ih h.2
      exact ⟨by rw [ox_i]; exact h1, by rw [nx_i, h.1]; simpa using h2⟩
theorem su_len (l : List Ut) : su u3 l ≤ l.length ∧ su u4 l ≤ l.length := by
  induction l with
  | nil => exact ⟨Int.le_refl _, Int.le_refl _⟩
  | cons x l ih => cases x <;> simp only [su, u3, u4, List.length_cons] <;> omega
theorem RU_of {l : List Ut} (h : clo l = true) (hl : l.length ≤ 2147483648) : RU l := by
  obtain ⟨h1, h2⟩ := clo_side l h
  obtain ⟨h3, h4⟩ := su_len l
  exact ⟨h1, h2, by omega, by omega⟩
/-- no line that goes: in order as it stands -/
theorem lin_nod (l : List Ut) (h : ∀ t, Ut.d t ∉ l) : lin l = l := by
  induction l with
  | nil => rfl
  | cons x l ih =>
    have i := ih (fun t ht => h t (by simp [ht]))
    rw [lin, i]
    cases x with
    | i t =>
      cases l with
      | nil => rfl
      | cons y l =>
        cases y with
        | d u => exact absurd (by simp) (h u)
        | s => rfl
        | k u => rfl
        | i u => rfl
    | s => rfl
    | k t => rfl
    | d t => rfl
theorem ct_reps (n : Nat) (p q : List Ut) : ct false (List.replicate n Ut.s ++ p) (List.replicate n Ut.s ++ q) = (ct false p q).map fun r => (List.replicate n Tg.s ++ r.1, r.2) := by
  cases n with
  | zero => simp
  | succ n => rw [ct_rep]; simp
theorem ct_repsL (n : Nat) (q : List Ut) : ct false [] (List.replicate n Ut.s ++ q) = (ct false [] q).map fun r => (List.replicate n Tg.s ++ r.1, r.2) := by
  cases n with
  | zero => simp
  | succ n => rw [ct_repL]; simp
theorem ct_repsR (n : Nat) (p : List Ut) : ct false (List.replicate n Ut.s ++ p) [] = (ct false p []).map fun r => (List.replicate n Tg.s ++ r.1, r.2) := by
  cases n with
  | zero => simp
  | succ n => rw [ct_repR]; simp
/-- a line of p that comes, where q skips -/
theorem ct_is {t : Tx} (ht : cl t = true) (p q : List Ut) : ct false (.i t :: p) (.s :: q) = (ct false p q).map fun r => (.i1 t :: r.1, r.2) := by
  rw [ct_c false _ _ rfl rfl rfl]
  have h1 : (opU (hdU (Ut.i t :: p)) || opU (hdU (Ut.s :: q))) = false := by simp [hdU, opU, ht]
  rw [h1]
  simp [hdU, cbT]
theorem ct_ie {t : Tx} (ht : cl t = true) (p : List Ut) : ct false (.i t :: p) [] = (ct false p []).map fun r => (.i1 t :: r.1, r.2) := by
  rw [ct_c false _ _ rfl rfl rfl]
  have h1 : (opU (hdU (Ut.i t :: p)) || opU (hdU ([] : List Ut))) = false := by simp [hdU, opU, ht]
  rw [h1]
  simp [hdU, cbT]
theorem ct_ed {t : Tx} (ht : cl t = true) (q : List Ut) : ct false [] (.d t :: q) = (ct false [] q).map fun r => (.d2 t :: r.1, r.2) := by
  rw [ct_c false _ _ rfl rfl rfl]
  have h1 : (opU (hdU ([] : List Ut)) || opU (hdU (Ut.d t :: q))) = false := by simp [hdU, opU, ht]
  rw [h1]
  simp [hdU, cbT]

/-! single changes, near each other -/
def nS (n : Nat) : List Oq := if n = 0 then [] else [(1, (n : Int), [])]
theorem ex_nS (n : Nat) : ex (nS n) = List.replicate n Ut.s := by
  unfold nS
  by_cases h : n = 0
  · subst h; rfl
  · rw [if_neg h, ex_one, ex1_s, Int.toNat_natCast]
def nP (n : Nat) : List Oq := nS n ++ [(3, 0, [97, 10]), (4, 0, [98, 10]), (4, 0, [99, 10])]
def nQ (n far : Nat) (k : Int) : List Oq := [(1, ((n + 2 + far : Nat) : Int), []), (k, 0, [100, 10])]
def nX (n far : Nat) (k : Int) : List Oq := nS n ++ [(2, 0, [97, 10]), (1, (far : Int), []), (k, 0, [100, 10])]
def nY (n far : Nat) (k : Int) : List Oq := nS n ++ ([(3, 0, [97, 10]), (4, 0, [98, 10]), (4, 0, [99, 10]), (1, (far : Int), [])] ++ if k = 4 then [(2, 0, [100, 10])] else [])
def nZ (k : Int) : Tg := if k = 4 then .i2 [100, 10] else .d2 [100, 10]
def nL (n far : Nat) (k : Int) : List Tg := List.replicate n Tg.s ++ (.d1 [97, 10] :: .i1 [98, 10] :: .i1 [99, 10] :: (List.replicate far Tg.s ++ [nZ k]))
theorem nS_al (n : Nat) : ∀ x ∈ nS n, al0 x := by
  intro x hx
  unfold nS at hx
  split at hx
  · cases hx
  · simp at hx; subst hx; exact Or.inl ⟨rfl, by show (1 : Int) ≤ (n : Int); omega, rfl⟩
theorem nS_alone (n : Nat) (h : n ≤ 100000) : (nS n).all alone = true := by
  unfold nS
  split
  · rfl
  · have h1 : (1 : Int) ≤ n := by omega
    have h2 : (n : Int) ≤ 2147483648 := by omega
    simp [alone, h1, h2]
theorem clo_nS (n : Nat) : clo (List.replicate n Ut.s) = true := clo_rep n _ rfl
theorem ex_nP (n : Nat) : ex (nP n) = List.replicate n Ut.s ++ [.d [97, 10], .i [98, 10], .i [99, 10]] := by unfold nP; rw [ex_app, ex_nS]; rfl
theorem rep_add (a b : Nat) (x : Ut) : List.replicate (a + b) x = List.replicate a x ++ List.replicate b x := List.replicate_append_replicate.symm
theorem ex_nQ (n far : Nat) {k : Int} (hk : k = 3 ∨ k = 4) : ex (nQ n far k) = List.replicate n Ut.s ++ (.s :: .s :: (List.replicate far Ut.s ++ [tu (nZ k)])) := by
  have : List.replicate (n + 2 + far) Ut.s = List.replicate n Ut.s ++ (.s :: .s :: List.replicate far Ut.s) := by
    rw [rep_add, rep_add, List.append_assoc]; rfl
  unfold nQ
  rcases hk with rfl | rfl <;> simp only [ex, ex1_s, Int.toNat_natCast, this, List.append_assoc, List.cons_append] <;> rfl
theorem right_nP {n : Nat} (h : n ≤ 100) : right (nP n) = true := by
  refine right_of_u ?_ ?_
  · unfold nP; rw [List.all_append, nS_alone n (by omega)]; decide
  · rw [ex_nP]
    refine RU_of ?_ ?_
    · rw [clo_app, clo_nS]; rfl
    · simp; omega
theorem right_nQ {n far : Nat} {k : Int} (h : n ≤ 100) (hf : far ≤ 100) (hk : k = 3 ∨ k = 4) : right (nQ n far k) = true := by
  refine right_of_u ?_ ?_
  · have h1 : (1 : Int) ≤ (n : Int) + 2 + far := by omega
    have h2 : (n : Int) + 2 + far ≤ 2147483648 := by omega
    unfold nQ
    rcases hk with rfl | rfl
    · simp only [List.all_cons, List.all_nil, alone]; simp [h1, h2]; decide
    · simp only [List.all_cons, List.all_nil, alone]; simp [h1, h2]; decide
  · rw [ex_nQ n far hk]
    refine RU_of ?_ ?_
    · rw [clo_app, clo_nS]
      rcases hk with rfl | rfl <;> simp only [clo, clo_app, clo_nS] <;> rfl
    · simp; omega
theorem ct_near (n far : Nat) {k : Int} (hk : k = 3 ∨ k = 4) : ct false (ex (nP n)) (ex (nQ n far k)) = some (nL n far k, false) := by
  rw [ex_nP, ex_nQ n far hk, ct_reps, ct_d, ct_is rfl, ct_is rfl, ct_repsL]
  rcases hk with rfl | rfl
  · rw [show tu (nZ 3) = .d [100, 10] from rfl, ct_ed rfl, ct_nil]; rfl
  · rw [show tu (nZ 4) = .i [100, 10] from rfl, ct_i _ _ _ _ rfl, ct_nil]; rfl
theorem tu_rep (n : Nat) : (List.replicate n Tg.s).map tu = List.replicate n Ut.s := by rw [List.map_replicate]; rfl
theorem fs_reps (n : Nat) : fs (List.replicate n Tg.s) = List.replicate n Ut.s := by have := fs_rep n []; rw [List.append_nil] at this; rw [this, fs, List.append_nil]
theorem sn_reps (n : Nat) : sn (List.replicate n Tg.s) = List.replicate n Ut.s := by have := sn_rep n []; rw [List.append_nil] at this; rw [this, sn, List.append_nil]
theorem nb_reps (n : Nat) (l : List Tg) : nb 0 (List.replicate n Tg.s ++ l) = nb 0 l := by
  cases n with
  | zero => rfl
  | succ n => exact nb_rep n 0 l
theorem nL_tu (n far : Nat) (k : Int) : (nL n far k).map tu = List.replicate n Ut.s ++ (.d [97, 10] :: .i [98, 10] :: .i [99, 10] :: (List.replicate far Ut.s ++ [tu (nZ k)])) := by
  unfold nL; simp only [List.map_append, List.map_cons, tu_rep, tu, List.map_nil]
theorem nL_RU {n far : Nat} {k : Int} (h : n ≤ 100) (hf : far ≤ 100) (hk : k = 3 ∨ k = 4) : RU ((nL n far k).map tu) := by
  rw [nL_tu]
  refine RU_of ?_ ?_
  · rw [clo_app, clo_nS]
    rcases hk with rfl | rfl <;> simp only [clo, clo_app, clo_nS] <;> rfl
  · simp; omega
theorem nL_fs (n far : Nat) {k : Int} (hk : k = 3 ∨ k = 4) : fs (nL n far k) = ex (nX n far k) := by
  unfold nL nX
  rw [ex_app, ex_nS, fs_app, fs_reps, show ∀ l, fs (.d1 [97, 10] :: .i1 [98, 10] :: .i1 [99, 10] :: l) = .k [97, 10] :: fs l from fun _ => rfl, fs_app, fs_reps]
  rcases hk with rfl | rfl <;> simp only [ex, ex1_s, Int.toNat_natCast] <;> rfl
theorem nL_sn (n far : Nat) {k : Int} (hk : k = 3 ∨ k = 4) : sn (nL n far k) = ex (nY n far k) := by
  unfold nL nY
  rw [ex_app, ex_nS, sn_app, sn_reps, show ∀ l, sn (.d1 [97, 10] :: .i1 [98, 10] :: .i1 [99, 10] :: l) = .d [97, 10] :: .i [98, 10] :: .i [99, 10] :: sn l from fun _ => rfl, sn_app, sn_reps]
  rcases hk with rfl | rfl
  · rw [if_neg (by decide), List.append_nil]; simp only [ex, ex1_s, Int.toNat_natCast]; rfl
  · rw [if_pos rfl]; simp only [ex, List.cons_append, List.nil_append, ex1_s, Int.toNat_natCast]; rfl
theorem nX_al {n far : Nat} {k : Int} (hf : 1 ≤ far) (hk : k = 3 ∨ k = 4) : ∀ x ∈ nX n far k, al0 x := by
  intro x hx
  unfold nX at hx
  rcases List.mem_append.1 hx with hx | hx
  · exact nS_al n x hx
  · simp at hx
    rcases hx with rfl | rfl | rfl
    · exact Or.inr ⟨Or.inl rfl, rfl, rfl⟩
    · exact Or.inl ⟨rfl, by show (1 : Int) ≤ (far : Int); omega, rfl⟩
    · exact Or.inr ⟨Or.inr hk, rfl, rfl⟩
theorem nY_al {n far : Nat} {k : Int} (hf : 1 ≤ far) : ∀ x ∈ nY n far k, al0 x := by
  intro x hx
  unfold nY at hx
  rcases List.mem_append.1 hx with hx | hx
  · exact nS_al n x hx
  · rcases List.mem_append.1 hx with hx | hx
    · simp at hx
      rcases hx with rfl | rfl | rfl | rfl
      · exact Or.inr ⟨Or.inr (Or.inl rfl), rfl, rfl⟩
      · exact Or.inr ⟨Or.inr (Or.inr rfl), rfl, rfl⟩
      · exact Or.inr ⟨Or.inr (Or.inr rfl), rfl, rfl⟩
      · exact Or.inl ⟨rfl, by show (1 : Int) ≤ (far : Int); omega, rfl⟩
    · split at hx
      · simp at hx; subst hx; exact Or.inr ⟨Or.inl rfl, rfl, rfl⟩
      · cases hx
theorem RU_right {l : List Oq} (h : ∀ x ∈ l, al0 x) (hu : RU (ex l)) : right (nrm l) = true := (right_u h).2 hu
theorem near_swap {n far : Nat} {k : Int} (h : n ≤ 100) (hf : far ≤ 100) (hf1 : 1 ≤ far) (hk : k = 3 ∨ k = 4) : swp (nP n) (nQ n far k) = (nrm (nX n far k), nrm (nY n far k), 0) := by
  refine swp_of (right_nP h) (right_nQ h hf hk) (ct_near n far hk) (nL_RU h hf hk) ?_ ?_ ?_ (nX_al hf1 hk) (nY_al hf1) (by rw [nL_fs n far hk]) (by rw [nL_sn n far hk])
  · unfold nL
    rw [fs_app, fs_reps, show ∀ l, fs (.d1 [97, 10] :: .i1 [98, 10] :: .i1 [99, 10] :: l) = .k [97, 10] :: fs l from fun _ => rfl, fs_app, fs_reps]
    refine RU_of ?_ ?_
    · rcases hk with rfl | rfl <;> simp only [clo, clo_app, clo_nS] <;> rfl
    · rcases hk with rfl | rfl <;> simp [nZ, fs] <;> omega
  · unfold nL
    rw [sn_app, sn_reps, show ∀ l, sn (.d1 [97, 10] :: .i1 [98, 10] :: .i1 [99, 10] :: l) = .d [97, 10] :: .i [98, 10] :: .i [99, 10] :: sn l from fun _ => rfl, sn_app, sn_reps]
    refine RU_of ?_ ?_
    · rcases hk with rfl | rfl <;> simp only [clo, clo_app, clo_nS] <;> rfl
    · rcases hk with rfl | rfl <;> simp [nZ, sn] <;> omega
  · unfold nL
    rw [nb_reps, show ∀ l, nb 0 (.d1 [97, 10] :: .i1 [98, 10] :: .i1 [99, 10] :: l) = nb 1 l from fun _ => rfl]
    obtain ⟨f, rfl⟩ : ∃ f, far = f + 1 := ⟨far - 1, by omega⟩
    rw [nb_rep]
    rcases hk with rfl | rfl <;> rfl
theorem near_by {n : Nat} {k : Int} (h : n ≤ 100) (hk : k = 3 ∨ k = 4) : swp (nP n) (nQ n 0 k) = ([], [], 7) := by
  refine swp_by (right_nP h) (right_nQ h (by omega) hk) (ct_near n 0 hk) (nL_RU h (by omega) hk) ?_
  unfold nL
  rw [nb_reps]
  rcases hk with rfl | rfl <;> rfl
theorem nX_nrm {n far : Nat} {k : Int} (hk : k = 3 ∨ k = 4) : nrm (nX n far k) = nX n far k := by
  unfold nX nS
  by_cases h : n = 0
  · rw [if_pos h]; rcases hk with rfl | rfl <;> simp [nrm, nfo, nst, stay]
  · rw [if_neg h]; rcases hk with rfl | rfl <;> simp [nrm, nfo, nst, stay]
theorem nY_nrm {n far : Nat} {k : Int} (hk : k = 3 ∨ k = 4) : nrm (nY n far k) = nY n far k := by
  unfold nY nS
  by_cases h : n = 0
  · rw [if_pos h]; rcases hk with rfl | rfl <;> simp [nrm, nfo, nst, stay]
  · rw [if_neg h]; rcases hk with rfl | rfl <;> simp [nrm, nfo, nst, stay]
end Go.Proofs.Ytcjjboomljbmbaa.Ol
