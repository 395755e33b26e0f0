
/-
  Plain laws of two lists of steps that change places: each keeps its changes, row by row; put in the other order once more they are, but for what they know around, what they were; no condition but those that each states.
-/
import Derived.Test.YtcjjboomljbmbaaXSwap
namespace Go.Proofs.Ytcjjboomljbmbaa.Ol
open Go.Proofs.Ytcjjboomljbmbaa.Ln

/-- the changes alone -/
def chu : List Ut → List Ut
  | [] => []
  | .d t :: l => .d t :: chu l
  | .i t :: l => .i t :: chu l
  | _ :: l => chu l
theorem chu_app (a b : List Ut) : chu (a ++ b) = chu a ++ chu b := by
  induction a with
  | nil => rfl
  | cons x a ih => cases x <;> simp only [List.cons_append, chu, ih]
theorem chu_ins (c : List Tx) : chu (c.map Ut.i) = c.map Ut.i := by
  induction c with
  | nil => rfl
  | cons t c ih => simp only [List.map_cons, chu, ih]
def fl2 (s : List Ut × List Tx) (x : Ut) : List Ut × List Tx :=
  match x with
  | .d t => (s.1 ++ [.d t], s.2)
  | .i t => (s.1, s.2 ++ [t])
  | _ => (s.1 ++ s.2.map Ut.i, [])
def fin2 (s : List Ut × List Tx) : List Ut := s.1 ++ s.2.map Ut.i
theorem fl2_nu (l : List Ut) : ∀ (a : List Ut) (c : List Tx), l.foldl fl2 (chu a, c) = (chu (l.foldl nu (a, c)).1, (l.foldl nu (a, c)).2) := by
  induction l with
  | nil => intro a c; rfl
  | cons x l ih =>
    intro a c
    rw [List.foldl_cons, List.foldl_cons]
    cases x with
    | d t => rw [show fl2 (chu a, c) (.d t) = (chu (a ++ [.d t]), c) by rw [chu_app]; rfl]; exact ih _ _
    | i t => exact ih a (c ++ [t])
    | s => rw [show fl2 (chu a, c) .s = (chu (a ++ c.map Ut.i ++ [.s]), []) by rw [chu_app, chu_app, chu_ins]; simp [fl2, chu]]; exact ih _ _
    | k t => rw [show fl2 (chu a, c) (.k t) = (chu (a ++ c.map Ut.i ++ [.k t]), []) by rw [chu_app, chu_app, chu_ins]; simp [fl2, chu]]; exact ih _ _
theorem chu_lin (l : List Ut) : chu (lin l) = fin2 (l.foldl fl2 ([], [])) := by
  have h := nu_lin l [] []
  have h2 := fl2_nu l [] []
  rw [show chu [] = [] from rfl] at h2
  rw [h2]
  have : lin l = (l.foldl nu ([], [])).1 ++ (l.foldl nu ([], [])).2.map Ut.i := by rw [h]; rfl
  rw [this, chu_app, chu_ins]; rfl
theorem fin_s (s : List Ut × List Tx) : fin2 (fin2 s, []) = fin2 s := by simp [fin2]
/-- the second's changes stay as they are -/
theorem keep_q (n : Nat) (e : Bool) (p q : List Ut) (l : List Tg) (m : Bool) (hn : p.length + q.length < n) (h : ct e p q = some (l, m)) : m = false → ∀ (j : Nat) (sT sq : List Ut × List Tx), nb j l = false → fin2 sT = fin2 sq → (q = [] ∨ (j ≠ 1 → sT = sq)) → fin2 ((fs l).foldl fl2 sT) = fin2 (q.foldl fl2 sq) := by
  refine ct_ind (P := fun _ _ q l m => m = false → ∀ (j : Nat) (sT sq : List Ut × List Tx), nb j l = false → fin2 sT = fin2 sq → (q = [] ∨ (j ≠ 1 → sT = sq)) → fin2 ((fs l).foldl fl2 sT) = fin2 (q.foldl fl2 sq)) ?_ ?_ ?_ ?_ n e p q l m hn h
  · intro e _ j sT sq _ hf _; exact hf
  · intro e t p q l m ih hm j sT sq hn hf _
    obtain ⟨_, h2⟩ := nb_cons hn
    exact ih hm 1 (fin2 sT, []) sq h2 (by rw [fin_s, hf]) (Or.inr fun h => absurd rfl h)
  · intro e t p q l m _ ih hm j sT sq hn hf hs
    obtain ⟨h1, h2⟩ := nb_cons hn
    have hj : j ≠ 1 := by simp only [tag] at h1; omega
    have hs := hs.resolve_left (by simp) hj
    subst hs
    exact ih hm 2 _ _ h2 rfl (Or.inr fun _ => rfl)
  · intro p q o b l m hp hq h3 ho ih hm j sT sq hn hf hs
    rw [Bool.or_eq_false_iff] at hm
    have i := ih hm.2
    rcases cbT_is ho with h | ⟨hx, hy, rfl⟩ | ⟨t, hx, hy, _, rfl⟩ | ⟨t, hx, hy, rfl⟩ | ⟨t, hx, hy, rfl⟩
    · rw [hm.1] at h; cases h
    · obtain ⟨_, h2⟩ := nb_cons hn
      cases q with
      | nil => exact i 0 (fin2 sT, []) sq h2 (by rw [fin_s, hf]) (Or.inl rfl)
      | cons y q =>
        rw [hdU_cons] at hy; subst hy
        exact i 0 (fin2 sT, []) (fin2 sq, []) h2 (by rw [hf]) (Or.inr fun _ => by rw [hf])
    · obtain ⟨_, h2⟩ := nb_cons hn
      cases q with
      | nil => exact i 0 (fin2 sT, []) sq h2 (by rw [fin_s, hf]) (Or.inl rfl)
      | cons y q =>
        rw [hdU_cons] at hy
        have h4 : fin2 (q.foldl fl2 (fin2 sq, [])) = fin2 ((y :: q).foldl fl2 sq) := by rcases hy with rfl | rfl <;> rfl
        rw [← h4]
        exact i 0 (fin2 sT, []) (fin2 sq, []) h2 (by rw [hf]) (Or.inr fun _ => by rw [hf])
    · obtain ⟨h1, h2⟩ := nb_cons hn
      cases q with
      | nil => cases hy
      | cons y q =>
        rw [hdU_cons] at hy; subst hy
        have hj : j ≠ 1 := by simp only [tag] at h1; omega
        have hs := hs.resolve_left (by simp) hj
        subst hs
        exact i 2 _ _ h2 rfl (Or.inr fun _ => rfl)
    · obtain ⟨_, h2⟩ := nb_cons hn
      cases q with
      | nil => exact i 1 sT sq h2 hf (Or.inl rfl)
      | cons y q =>
        rw [hdU_cons] at hy
        have h4 : fin2 (q.foldl fl2 (fin2 sq, [])) = fin2 ((y :: q).foldl fl2 sq) := by rcases hy with rfl | rfl <;> rfl
        rw [← h4]
        exact i 1 sT (fin2 sq, []) h2 (by rw [fin_s, hf]) (Or.inr fun h => absurd rfl h)
/-- the first's changes stay as they are -/
theorem keep_p (n : Nat) (e : Bool) (p q : List Ut) (l : List Tg) (m : Bool) (hn : p.length + q.length < n) (h : ct e p q = some (l, m)) : m = false → ∀ (j : Nat) (sT sp : List Ut × List Tx), nb j l = false → fin2 sT = fin2 sp → (p = [] ∨ (j ≠ 2 → sT = sp)) → fin2 ((sn l).foldl fl2 sT) = fin2 (p.foldl fl2 sp) := by
  refine ct_ind (P := fun _ p _ l m => m = false → ∀ (j : Nat) (sT sp : List Ut × List Tx), nb j l = false → fin2 sT = fin2 sp → (p = [] ∨ (j ≠ 2 → sT = sp)) → fin2 ((sn l).foldl fl2 sT) = fin2 (p.foldl fl2 sp)) ?_ ?_ ?_ ?_ n e p q l m hn h
  · intro e _ j sT sq _ hf _; exact hf
  · intro e t p q l m ih hm j sT sp hn hf hs
    obtain ⟨h1, h2⟩ := nb_cons hn
    have hj : j ≠ 2 := by simp only [tag] at h1; omega
    have hs := hs.resolve_left (by simp) hj
    subst hs
    exact ih hm 1 _ _ h2 rfl (Or.inr fun _ => rfl)
  · intro e t p q l m _ ih hm j sT sp hn hf _
    obtain ⟨_, h2⟩ := nb_cons hn
    exact ih hm 2 (fin2 sT, []) sp h2 (by rw [fin_s, hf]) (Or.inr fun h => absurd rfl h)
  · intro p q o b l m hp hq h3 ho ih hm j sT sp hn hf hs
    rw [Bool.or_eq_false_iff] at hm
    have i := ih hm.2
    rcases cbT_is ho with h | ⟨hx, hy, rfl⟩ | ⟨t, hx, hy, _, rfl⟩ | ⟨t, hx, hy, rfl⟩ | ⟨t, hx, hy, rfl⟩
    · rw [hm.1] at h; cases h
    · obtain ⟨_, h2⟩ := nb_cons hn
      cases p with
      | nil => exact i 0 (fin2 sT, []) sp h2 (by rw [fin_s, hf]) (Or.inl rfl)
      | cons x p =>
        rw [hdU_cons] at hx; subst hx
        exact i 0 (fin2 sT, []) (fin2 sp, []) h2 (by rw [hf]) (Or.inr fun _ => by rw [hf])
    · obtain ⟨_, h2⟩ := nb_cons hn
      cases p with
      | nil => exact i 0 (fin2 sT, []) sp h2 (by rw [fin_s, hf]) (Or.inl rfl)
      | cons x p =>
        rw [hdU_cons] at hx
        have h4 : fin2 (p.foldl fl2 (fin2 sp, [])) = fin2 ((x :: p).foldl fl2 sp) := by rcases hx with rfl | rfl <;> rfl
        rw [← h4]
        exact i 0 (fin2 sT, []) (fin2 sp, []) h2 (by rw [hf]) (Or.inr fun _ => by rw [hf])
    · obtain ⟨_, h2⟩ := nb_cons hn
      cases p with
      | nil => exact i 2 sT sp h2 hf (Or.inl rfl)
      | cons x p =>
        rw [hdU_cons] at hx
        have h4 : fin2 (p.foldl fl2 (fin2 sp, [])) = fin2 ((x :: p).foldl fl2 sp) := by rcases hx with rfl | rfl <;> rfl
        rw [← h4]
        exact i 2 sT (fin2 sp, []) h2 (by rw [fin_s, hf]) (Or.inr fun h => absurd rfl h)
    · obtain ⟨h1, h2⟩ := nb_cons hn
      cases p with
      | nil => cases hx
      | cons x p =>
        rw [hdU_cons] at hx; subst hx
        have hj : j ≠ 2 := by simp only [tag] at h1; omega
        have hs := hs.resolve_left (by simp) hj
        subst hs
        exact i 1 _ _ h2 rfl (Or.inr fun _ => rfl)
/-- the changes of steps, laid out -/
theorem ex_chg (l : List Oq) (h : ∀ x ∈ l, al0 x) : ex (l.filter chg) = chu (ex l) := by
  have hr : ∀ n : Nat, chu (List.replicate n Ut.s) = [] := by
    intro n
    induction n with
    | zero => rfl
    | succ n ih => rw [List.replicate_succ]; exact ih
  induction l with
  | nil => rfl
  | cons x l ih =>
    have i := ih (fun z hz => h z (by simp [hz]))
    rw [ex, chu_app, ← i]
    rcases al_cases (h x (by simp)) with ⟨n, rfl⟩ | ⟨t, rfl⟩ | ⟨t, rfl⟩ | ⟨t, rfl⟩
    · rw [ex1_n, hr]; rfl
    all_goals rfl
theorem chg_inj {l m : List Oq} (hl : ∀ x ∈ l, al0 x) (hm : ∀ x ∈ m, al0 x) (h : chu (ex l) = chu (ex m)) : l.filter chg = m.filter chg := by
  have hn : ∀ l : List Oq, (∀ x ∈ l, chg x = true) → nadj l = true := by
    intro l
    induction l with
    | nil => intro _; rfl
    | cons x l ih =>
      intro h
      cases l with
      | nil => rfl
      | cons y l =>
        rw [nadj, ih (fun z hz => h z (by simp [hz]))]
        have := h x (by simp)
        unfold chg at this
        simp only [Bool.or_eq_true, beq_iff_eq] at this
        simp only [Bool.and_true, Bool.not_eq_true', Bool.and_eq_false_iff, beq_eq_false_iff_ne, ne_eq]
        omega
  exact ex_inj _ _ (fun x hx => hl x ((List.mem_filter.1 hx).1)) (fun x hx => hm x ((List.mem_filter.1 hx).1)) (hn _ fun x hx => (List.mem_filter.1 hx).2) (hn _ fun x hx => (List.mem_filter.1 hx).2) (by rw [ex_chg l hl, ex_chg m hm, h])
/-- in the other order each has the changes that it had -/
theorem swp_keeps {p q x y : List Oq} (h : swp p q = (x, y, 0)) : x.filter chg = (nrm q).filter chg ∧ y.filter chg = (nrm p).filter chg := by
  obtain ⟨r, S⟩ := swp_some h
  have hq := keep_q _ false _ _ _ _ (Nat.lt_succ_self _) S.ct rfl 0 ([], []) ([], []) S.nb rfl (Or.inr fun _ => rfl)
  have hp := keep_p _ false _ _ _ _ (Nat.lt_succ_self _) S.ct rfl 0 ([], []) ([], []) S.nb rfl (Or.inr fun _ => rfl)
  rw [← chu_lin, ← chu_lin] at hq hp
  refine ⟨chg_inj (right_al0 S.rx) (nrm_al0 (right_al0 S.rq)) ?_, chg_inj (right_al0 S.ry) (nrm_al0 (right_al0 S.rp)) ?_⟩
  · rw [S.exx, hq, ex_nrm _ (right_al0 S.rq)]
  · rw [S.exy, hp, ex_nrm _ (right_al0 S.rp)]

/-- a Keep is a Skip of one -/
def un1 (x : Oq) : Oq := if x.1 = 2 then (1, 1, []) else x
/-- steps that know nothing around -/
def tr0 (l : List Oq) : List Oq := rst (nrm ((nrm l).map un1))
theorem un1_al {l : List Oq} (h : ∀ x ∈ l, al0 x) : ∀ x ∈ l.map un1, al0 x := by
  intro x hx
  obtain ⟨y, hy, rfl⟩ := List.mem_map.1 hx
  unfold un1
  split
  · exact Or.inl ⟨rfl, by decide, rfl⟩
  · exact h y hy
theorem unk_rep (n : Nat) : unk (List.replicate n Ut.s) = List.replicate n Ut.s := by
  induction n with
  | zero => rfl
  | succ n ih => rw [List.replicate_succ]; show Ut.s :: unk (List.replicate n Ut.s) = _; rw [ih]
theorem ex_un1 (l : List Oq) (h : ∀ x ∈ l, al0 x) : ex (l.map un1) = unk (ex l) := by
  induction l with
  | nil => rfl
  | cons x l ih =>
    have i := ih (fun z hz => h z (by simp [hz]))
    rw [List.map_cons, ex, ex, unk_app, i]
    rcases al_cases (h x (by simp)) with ⟨n, rfl⟩ | ⟨t, rfl⟩ | ⟨t, rfl⟩ | ⟨t, rfl⟩
    · rw [show un1 (1, ((n + 1 : Nat) : Int), []) = (1, ((n + 1 : Nat) : Int), []) from rfl, ex1_n, unk_rep]
    all_goals rfl
theorem insI_rep (t : Tx) (c : List Ut) (k : Nat) : insI t (c ++ List.replicate k Ut.s) = insI t c ++ List.replicate k Ut.s := by
  induction c with
  | nil => cases k <;> rfl
  | cons x c ih =>
    cases x with
    | d u => simp only [List.cons_append, insI, ih]
    | s => rfl
    | k u => rfl
    | i u => rfl
theorem lin_rep (a : List Ut) (k : Nat) : lin (a ++ List.replicate k Ut.s) = lin a ++ List.replicate k Ut.s := by
  induction a with
  | nil =>
    show lin (List.replicate k Ut.s) = List.replicate k Ut.s
    induction k with
    | zero => rfl
    | succ k ih => rw [List.replicate_succ, lin, ih]; rfl
  | cons x a ih =>
    rw [List.cons_append, lin, ih, lin]
    cases x with
    | i t => exact insI_rep t _ k
    | s => rfl
    | k t => rfl
    | d t => rfl
theorem insI_idem (t : Tx) (c : List Ut) : lin (insI t c) = insI t (lin c) := by
  induction c with
  | nil => rfl
  | cons x c ih =>
    cases x with
    | d u => rw [insI, lin, ih]; rfl
    | s => rfl
    | k u => rfl
    | i u => rfl
theorem lin_lin (l : List Ut) : lin (lin l) = lin l := by
  induction l with
  | nil => rfl
  | cons x l ih =>
    cases x with
    | i t => rw [lin]; exact (insI_idem t _).trans (by rw [ih]; rfl)
    | s => rw [lin]; show lin (.s :: lin l) = _; rw [lin, ih]
    | k t => rw [lin]; show lin (.k t :: lin l) = _; rw [lin, ih]
    | d t => rw [lin]; show lin (.d t :: lin l) = _; rw [lin, ih]
theorem nrm_snoc1 (l : List Oq) (n : Int) : nrm (l ++ [(1, n, [])]) = stay (nrm l) (1, n, []) := by
  unfold nrm
  rw [nfo_snoc]
  have : nst (nfo l) (1, n, []) = (stay ((nfo l).1 ++ (nfo l).2) (1, n, []), []) := by simp [nst]
  rw [this, List.append_nil]
theorem rst_stay (l : List Oq) (n : Int) : rst (stay l (1, n, [])) = rst l := by
  rcases stay_cases l (1, n, []) with ⟨e, _⟩ | ⟨o, y, h1, hy, _, e⟩
  · rw [e]; unfold rst; simp
  · rw [e, h1]; unfold rst; simp [hy]
/-- steps that are the same, but for what they know around and some lines behind them -/
theorem tr0_same {l m : List Oq} (hl : ∀ x ∈ l, al0 x) (hm : ∀ x ∈ m, al0 x) (k : Nat) (h : unk (lin (ex l)) = unk (lin (ex m)) ++ List.replicate k Ut.s) : tr0 l = tr0 m := by
  have al := un1_al (nrm_al0 hl)
  have am := un1_al (nrm_al0 hm)
  have el : ex ((nrm l).map un1) = ex ((nrm m).map un1) ++ List.replicate k Ut.s := by
    rw [ex_un1 _ (nrm_al0 hl), ex_un1 _ (nrm_al0 hm), ex_nrm l hl, ex_nrm m hm, h]
  unfold tr0
  cases k with
  | zero =>
    rw [List.replicate_zero, List.append_nil] at el
    rw [nrm_same al am (by rw [el])]
  | succ k =>
    have : nrm ((nrm l).map un1) = nrm ((nrm m).map un1 ++ [(1, ((k + 1 : Nat) : Int), [])]) := by
      refine nrm_same al ?_ (by rw [el, ex_app, ex_one, ex1_n])
      intro x hx
      rcases List.mem_append.1 hx with hx | hx
      · exact am x hx
      · simp only [List.mem_cons, List.not_mem_nil, or_false] at hx; subst hx; exact Or.inl ⟨rfl, by show (1 : Int) ≤ ((k + 1 : Nat) : Int); omega, rfl⟩
    rw [this, nrm_snoc1, rst_stay]

/-- whose a step is, the other way round -/
def swO (x : Oq × Int) : Oq × Int := (x.1, if x.2 = 1 then 2 else if x.2 = 2 then 1 else x.2)
theorem swO_wf {l : List (Oq × Int)} (h : ∀ z ∈ l, Wf z) : ∀ z ∈ l.map swO, Wf z := by
  intro z hz
  obtain ⟨y, hy, rfl⟩ := List.mem_map.1 hz
  have hw := h y hy
  have ha := hw.1
  rcases wf_cases hw with ⟨n, rfl⟩ | ⟨t, rfl⟩ | ⟨t, rfl⟩ | ⟨t, rfl⟩ | ⟨t, rfl⟩ | ⟨t, rfl⟩
  · exact ⟨ha, Or.inl ⟨rfl, Or.inl rfl⟩⟩
  · exact ⟨ha, Or.inl ⟨rfl, Or.inr rfl⟩⟩
  · exact ⟨ha, Or.inr ⟨Or.inr rfl, Or.inl rfl⟩⟩
  · exact ⟨ha, Or.inr ⟨Or.inl rfl, Or.inl rfl⟩⟩
  · exact ⟨ha, Or.inr ⟨Or.inr rfl, Or.inr rfl⟩⟩
  · exact ⟨ha, Or.inr ⟨Or.inl rfl, Or.inr rfl⟩⟩
theorem sw_rep (n : Nat) : sw (List.replicate n Tg.s) = List.replicate n Tg.s := by
  unfold sw; rw [List.map_replicate]; rfl
theorem exB_swO {l : List (Oq × Int)} (h : ∀ z ∈ l, Wf z) : exB (l.map swO) = sw (exB l) := by
  induction l with
  | nil => rfl
  | cons x l ih =>
    have i := ih (fun z hz => h z (by simp [hz]))
    rw [List.map_cons, exB, exB, sw_app, i]
    rcases wf_cases (h x (by simp)) with ⟨n, rfl⟩ | ⟨t, rfl⟩ | ⟨t, rfl⟩ | ⟨t, rfl⟩ | ⟨t, rfl⟩ | ⟨t, rfl⟩
    · rw [show swO ((1, ((n + 1 : Nat) : Int), []), 0) = ((1, ((n + 1 : Nat) : Int), []), 0) from rfl, exB1_n, sw_rep]
    all_goals rfl
/-- what was put in the other order can be put back, and is then, but for what it knows around, what it was -/
theorem swp_back {p q x y : List Oq} (h : swp p q = (x, y, 0)) : ∃ a b, swp x y = (a, b, 0) ∧ tr0 a = tr0 p ∧ tr0 b = tr0 q := by
  obtain ⟨r, S⟩ := swp_some h
  have hex := S.exx
  have hey := S.exy
  rw [← fs_lin _ 0 S.nb] at hex
  rw [← sn_lin _ 0 S.nb] at hey
  have hxx := (right_ux S.rx).2.1
  rw [hex] at hxx
  have hT := ct_two (linT (exB r.1)) false 0 (nb_linT _ 0 S.nb) hxx
  rw [← hex, ← hey] at hT
  have ox := right_ok S.rx
  have oy := right_ok S.ry
  have hw := wk_ct (x.length + y.length + 1) false x y ox oy (Nat.lt_succ_self _)
  rw [hT] at hw
  obtain ⟨r', hr', he⟩ := Option.map_eq_some_iff.1 hw
  simp only [Prod.mk.injEq] at he
  obtain ⟨hE, hM⟩ := he
  have wf' : ∀ z ∈ r'.1, Wf z := wk_wf _ _ _ _ _ ox oy hr'
  have al' : ∀ z ∈ byO r', al0 z := byO_al ox oy hr'
  have wfs := swO_wf S.wf
  have nbs : nb 0 (sw (exB r.1)) = false := nb_sw _ 0 0 (Or.inl ⟨rfl, rfl⟩) S.nb
  have hB : nrm (byO r') = nrm (byO r) := by
    refine nrm_same al' S.al ?_
    rw [show ex (byO r') = (exB r'.1).map tu from (exB_tu r'.1).symm, hE, tu_sw, tu_lin, lin_lin, S.tu_]
  have hRB : right (nrm (byO r')) = true := by rw [hB]; exact S.rb
  have hN : nbO 0 r'.1 = false := by
    have h1 := nbO_nb r'.1 wf' 0
    rw [hE, sw_lin] at h1
    exact h1.trans (nb_linT _ 0 nbs)
  have afs := fsO_al _ wfs
  have asn := snO_al _ wfs
  have efs : ex (fsO (r.1.map swO)) = fs (sw (exB r.1)) := by rw [ex_fsO _ wfs, exB_swO S.wf]
  have esn : ex (snO (r.1.map swO)) = sn (sw (exB r.1)) := by rw [ex_snO _ wfs, exB_swO S.wf]
  have hA : nrm (fsO r'.1) = nrm (fsO (r.1.map swO)) := by
    refine nrm_same (fsO_al _ wf') afs ?_
    rw [ex_fsO _ wf', hE, sw_lin, fs_lin _ 0 nbs, lin_lin, efs]
  have hA2 : nrm (snO r'.1) = nrm (snO (r.1.map swO)) := by
    refine nrm_same (snO_al _ wf') asn ?_
    rw [ex_snO _ wf', hE, sw_lin, sn_lin _ 0 nbs, lin_lin, esn]
  obtain ⟨m1, m2⟩ := mid_nx _ false _ _ _ _ (Nat.lt_succ_self _) S.ct rfl
  obtain ⟨l1, l2⟩ := mid_len _ false _ _ _ _ (Nat.lt_succ_self _) S.ct rfl
  obtain ⟨c1, c2⟩ := fs_cnt (exB r.1)
  have hbr := (right_u S.al).1 S.rb
  rw [← S.tu_] at hbr
  have hp := right_ux S.rp
  have hq := right_ux S.rq
  have R1 : right (nrm (fsO r'.1)) = true := by
    rw [hA]
    refine (right_u afs).2 ?_
    rw [efs, (fs_old _ false).1, c1]
    exact ⟨hbr.1, m1, hbr.2.2.1, by omega⟩
  have R2 : right (nrm (snO r'.1)) = true := by
    rw [hA2]
    refine (right_u asn).2 ?_
    rw [esn, (sn_new _ false).1, c2]
    exact ⟨m2, hbr.2.1, by omega, hbr.2.2.2⟩
  refine ⟨nrm (fsO r'.1), nrm (snO r'.1), ?_, ?_, ?_⟩
  · unfold swp
    rw [if_pos ⟨S.rx, S.ry⟩, hr']
    simp only
    rw [if_pos hRB, if_neg]
    rintro (h | h | h)
    · rw [hM] at h; cases h
    · rw [hN] at h; cases h
    · exact h ⟨R1, R2⟩
  · obtain ⟨k, hk⟩ := unk_fs _ false _ _ _ _ (Nat.lt_succ_self _) S.ct rfl
    refine tr0_same (right_al0 R1) (right_al0 S.rp) k ?_
    rw [hA, ex_nrm _ afs, efs, lin_lin, unk_lin, unk_lin, hk, lin_rep]
  · obtain ⟨k, hk⟩ := unk_sn _ false _ _ _ _ (Nat.lt_succ_self _) S.ct rfl
    refine tr0_same (right_al0 R2) (right_al0 S.rq) k ?_
    rw [hA2, ex_nrm _ asn, esn, lin_lin, unk_lin, unk_lin, hk, lin_rep]

end Go.Proofs.Ytcjjboomljbmbaa.Ol
