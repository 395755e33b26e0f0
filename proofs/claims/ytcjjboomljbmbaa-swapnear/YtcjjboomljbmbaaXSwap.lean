
/-
  Plain laws of two lists of steps that change places, as the document has it: they do to lines what both do, in the other order; each keeps its changes; put in the other order once more they are, but for what they know around, what they were; no condition but those that each states.
-/
import Derived.Test.YtcjjboomljbmbaaXWk
import Derived.Test.YtcjjboomljbmbaaCPThen
namespace Go.Proofs.Ytcjjboomljbmbaa.Ol
open Go.Proofs.Ytcjjboomljbmbaa.Ln

/-- of what is told, the first of the other order -/
def fsO : List (Oq × Int) → List Oq
  | [] => []
  | x :: l => (if x.2 = 0 ∨ x.2 = 2 then [x.1] else if x.1.1 = 3 then [(2, x.1.2.1, x.1.2.2)] else []) ++ fsO l
/-- the second of it -/
def snO : List (Oq × Int) → List Oq
  | [] => []
  | x :: l => (if x.2 = 0 then [x.1] else if x.2 = 2 then (if x.1.1 = 4 then [(2, x.1.2.1, x.1.2.2)] else []) else [x.1]) ++ snO l
/-- does a step of one and one of the other stand side by side? -/
def nbO : Int → List (Oq × Int) → Bool
  | _, [] => false
  | k, x :: l => (decide (0 < x.2) && decide (0 < k) && !(x.2 == k)) || nbO x.2 l
/-- two lists of steps in the other order, or why they can't be -/
def swp (p q : List Oq) : List Oq × List Oq × Int :=
  if right p = true ∧ right q = true then
    match wk (p.length + q.length + 1) false p q with
    | none => ([], [], 6)
    | some r =>
      if right (nrm (byO r)) = true then
        if r.2 = true ∨ nbO 0 r.1 = true ∨ ¬ (right (nrm (fsO r.1)) = true ∧ right (nrm (snO r.1)) = true) then ([], [], 7)
        else (nrm (fsO r.1), nrm (snO r.1), 0)
      else ([], [], 6)
  else ([], [], 1)

/-- right by itself, and whose it is as it should be -/
def Wf (x : Oq × Int) : Prop := al0 x.1 ∧ ((x.2 = 0 ∧ (x.1.1 = 1 ∨ x.1.1 = 2)) ∨ ((x.2 = 1 ∨ x.2 = 2) ∧ (x.1.1 = 3 ∨ x.1.1 = 4)))
theorem wkO_wf {x y : Oq} (hx : al0 x) (hy : al0 y) (h3 : x.1 ≠ 3) (h4 : y.1 ≠ 4) : ∀ z ∈ wkO x y (wkN x y), Wf z := by
  intro z hz
  refine ⟨wkO_al hx hy z hz, ?_⟩
  have kx : x.1 = 1 ∨ x.1 = 2 ∨ x.1 = 4 := by rcases hx with ⟨h, _⟩ | ⟨h, _⟩ <;> omega
  have ky : y.1 = 1 ∨ y.1 = 2 ∨ y.1 = 3 := by rcases hy with ⟨h, _⟩ | ⟨h, _⟩ <;> omega
  unfold wkO at hz
  split at hz
  · simp only [List.mem_cons, List.not_mem_nil, or_false] at hz; subst hz; exact Or.inl ⟨rfl, Or.inl rfl⟩
  · split at hz
    · cases hz
    · split at hz
      · simp only [List.mem_cons, List.not_mem_nil, or_false] at hz; subst hz; exact Or.inr ⟨Or.inl rfl, by show x.1 = 3 ∨ x.1 = 4; omega⟩
      · split at hz
        · simp only [List.mem_cons, List.not_mem_nil, or_false] at hz; subst hz; exact Or.inr ⟨Or.inr rfl, by show y.1 = 3 ∨ y.1 = 4; omega⟩
        · split at hz
          · simp only [List.mem_cons, List.not_mem_nil, or_false] at hz; subst hz; exact Or.inl ⟨rfl, by show y.1 = 1 ∨ y.1 = 2; omega⟩
          · simp only [List.mem_cons, List.not_mem_nil, or_false] at hz; subst hz; exact Or.inl ⟨rfl, by show x.1 = 1 ∨ x.1 = 2; omega⟩
theorem wk_wf (f : Nat) : ∀ (e : Bool) (p q : List Oq) (r : List (Oq × Int) × Bool), Ok p → Ok q → wk f e p q = some r → ∀ z ∈ r.1, Wf z := by
  induction f with
  | zero => intro e p q r _ _ h; cases h
  | succ f ih =>
    intro e p q r op oq h
    rw [wk] at h
    split at h
    · cases h; intro z hz; cases hz
    · split at h
      · rename_i h3
        obtain ⟨r', h1, rfl⟩ := Option.map_eq_some_iff.1 h
        intro z hz
        rcases List.mem_cons.1 hz with rfl | hz
        · exact ⟨op.hd.1, Or.inr ⟨Or.inl rfl, Or.inl h3⟩⟩
        · exact ih e _ _ r' op.tail oq h1 z hz
      · rename_i h3
        split at h
        · rename_i h4
          obtain ⟨r', h1, rfl⟩ := Option.map_eq_some_iff.1 h
          intro z hz
          rcases List.mem_cons.1 hz with rfl | hz
          · exact ⟨oq.hd.1, Or.inr ⟨Or.inr rfl, Or.inr h4⟩⟩
          · exact ih e _ _ r' op oq.tail h1 z hz
        · rename_i h4
          split at h
          · cases h
          · split at h
            · cases h
            · obtain ⟨r', h1, rfl⟩ := Option.map_eq_some_iff.1 h
              have hN := wkN_pos op.hd.1 oq.hd.1
              intro z hz
              rcases List.mem_append.1 hz with hz | hz
              · exact wkO_wf op.hd.1 oq.hd.1 h3 h4 z hz
              · exact ih _ _ _ r' (op.onn _ hN) (oq.onn _ hN) h1 z hz

theorem fs_rep (n : Nat) (l : List Tg) : fs (List.replicate n Tg.s ++ l) = List.replicate n Ut.s ++ fs l := by
  induction n with
  | zero => rfl
  | succ n ih => rw [List.replicate_succ, List.cons_append, fs, ih, List.replicate_succ, List.cons_append]
theorem sn_rep (n : Nat) (l : List Tg) : sn (List.replicate n Tg.s ++ l) = List.replicate n Ut.s ++ sn l := by
  induction n with
  | zero => rfl
  | succ n ih => rw [List.replicate_succ, List.cons_append, sn, ih, List.replicate_succ, List.cons_append]
theorem nb_rep (n : Nat) (k : Nat) (l : List Tg) : nb k (List.replicate (n + 1) Tg.s ++ l) = nb 0 l := by
  induction n generalizing k with
  | zero => simp [nb, tag]
  | succ n ih => rw [List.replicate_succ, List.cons_append, nb, show tag Tg.s = 0 from rfl, ih]; simp
/-- whose a step is, and which it is, said in one -/
theorem wf_cases {x : Oq × Int} (h : Wf x) : (∃ n : Nat, x = ((1, ((n + 1 : Nat) : Int), []), 0)) ∨ (∃ t, x = ((2, 0, t), 0)) ∨ (∃ t, x = ((3, 0, t), 1)) ∨ (∃ t, x = ((3, 0, t), 2)) ∨ (∃ t, x = ((4, 0, t), 1)) ∨ ∃ t, x = ((4, 0, t), 2) := by
  obtain ⟨⟨k, n, t⟩, b⟩ := x
  obtain ⟨h1, h2⟩ := h
  simp only [al0] at h1 h2
  rcases h2 with ⟨rfl, hk⟩ | ⟨hb, hk⟩
  · rcases hk with rfl | rfl
    · rcases h1 with ⟨_, hn, rfl⟩ | ⟨h, _⟩
      · exact Or.inl ⟨(n - 1).toNat, by rw [show n = (((n - 1).toNat + 1 : Nat) : Int) by omega]; simp⟩
      · omega
    · rcases h1 with ⟨h, _⟩ | ⟨_, rfl, _⟩
      · omega
      · exact Or.inr (Or.inl ⟨t, rfl⟩)
  · obtain rfl : n = 0 := by rcases h1 with ⟨h, _⟩ | ⟨_, h, _⟩ <;> omega
    rcases hb with rfl | rfl <;> rcases hk with rfl | rfl
    · exact Or.inr (Or.inr (Or.inl ⟨t, rfl⟩))
    · exact Or.inr (Or.inr (Or.inr (Or.inr (Or.inl ⟨t, rfl⟩))))
    · exact Or.inr (Or.inr (Or.inr (Or.inl ⟨t, rfl⟩)))
    · exact Or.inr (Or.inr (Or.inr (Or.inr (Or.inr ⟨t, rfl⟩))))
theorem exB1_n (n : Nat) : exB1 ((1, ((n + 1 : Nat) : Int), []), 0) = List.replicate (n + 1) Tg.s := by simp only [exB1, if_true, Int.toNat_natCast]
theorem ex1_n (n : Nat) : ex1 (1, ((n + 1 : Nat) : Int), []) = List.replicate (n + 1) Ut.s := by rw [ex1_s, Int.toNat_natCast]
theorem ex_fsO (l : List (Oq × Int)) (h : ∀ z ∈ l, Wf z) : ex (fsO l) = fs (exB l) := by
  induction l with
  | nil => rfl
  | cons x l ih =>
    have i := ih (fun z hz => h z (by simp [hz]))
    rw [fsO, exB, ex_app, i]
    rcases wf_cases (h x (by simp)) with ⟨n, rfl⟩ | ⟨t, rfl⟩ | ⟨t, rfl⟩ | ⟨t, rfl⟩ | ⟨t, rfl⟩ | ⟨t, rfl⟩
    · rw [exB1_n, fs_rep, if_pos (Or.inl rfl), ex_one, ex1_n]
    all_goals rfl
theorem ex_snO (l : List (Oq × Int)) (h : ∀ z ∈ l, Wf z) : ex (snO l) = sn (exB l) := by
  induction l with
  | nil => rfl
  | cons x l ih =>
    have i := ih (fun z hz => h z (by simp [hz]))
    rw [snO, exB, ex_app, i]
    rcases wf_cases (h x (by simp)) with ⟨n, rfl⟩ | ⟨t, rfl⟩ | ⟨t, rfl⟩ | ⟨t, rfl⟩ | ⟨t, rfl⟩ | ⟨t, rfl⟩
    · rw [exB1_n, sn_rep, if_pos rfl, ex_one, ex1_n]
    all_goals rfl
theorem nbO_nb (l : List (Oq × Int)) (h : ∀ z ∈ l, Wf z) : ∀ k : Nat, nbO k l = nb k (exB l) := by
  induction l with
  | nil => intro k; rfl
  | cons x l ih =>
    intro k
    have i := ih (fun z hz => h z (by simp [hz]))
    have i0 := i 0
    have i1 := i 1
    have i2 := i 2
    rw [nbO, exB]
    rcases wf_cases (h x (by simp)) with ⟨n, rfl⟩ | ⟨t, rfl⟩ | ⟨t, rfl⟩ | ⟨t, rfl⟩ | ⟨t, rfl⟩ | ⟨t, rfl⟩
    · rw [exB1_n, nb_rep, ← i0]; rfl
    · show _ = nb k (.k t :: exB l); rw [nb, ← show nbO 0 l = nb (tag (.k t)) (exB l) from i0]; simp [tag]
    · show _ = nb k (.d1 t :: exB l); rw [nb, ← show nbO 1 l = nb (tag (.d1 t)) (exB l) from i1]; congr 1; rw [Bool.eq_iff_iff]; simp [tag]; omega
    · show _ = nb k (.d2 t :: exB l); rw [nb, ← show nbO 2 l = nb (tag (.d2 t)) (exB l) from i2]; congr 1; rw [Bool.eq_iff_iff]; simp [tag]; omega
    · show _ = nb k (.i1 t :: exB l); rw [nb, ← show nbO 1 l = nb (tag (.i1 t)) (exB l) from i1]; congr 1; rw [Bool.eq_iff_iff]; simp [tag]; omega
    · show _ = nb k (.i2 t :: exB l); rw [nb, ← show nbO 2 l = nb (tag (.i2 t)) (exB l) from i2]; congr 1; rw [Bool.eq_iff_iff]; simp [tag]; omega
theorem al0_kept {t : Tx} (h : al0 (3, 0, t) ∨ al0 (4, 0, t)) : al0 (2, 0, t) := by
  rcases h with h | h <;> rcases h with ⟨h, _⟩ | ⟨_, _, h⟩
  · exact absurd (show (3 : Int) = 1 from h) (by decide)
  · exact Or.inr ⟨Or.inl rfl, rfl, h⟩
  · exact absurd (show (4 : Int) = 1 from h) (by decide)
  · exact Or.inr ⟨Or.inl rfl, rfl, h⟩
theorem fsO_al (l : List (Oq × Int)) (h : ∀ z ∈ l, Wf z) : ∀ x ∈ fsO l, al0 x := by
  induction l with
  | nil => intro x hx; cases hx
  | cons y l ih =>
    intro x hx
    rw [fsO] at hx
    rcases List.mem_append.1 hx with hx | hx
    · have hy := h y (by simp)
      have ha := hy.1
      rcases wf_cases hy with ⟨n, rfl⟩ | ⟨t, rfl⟩ | ⟨t, rfl⟩ | ⟨t, rfl⟩ | ⟨t, rfl⟩ | ⟨t, rfl⟩ <;> simp at hx <;> subst hx <;> first | exact ha | exact al0_kept (Or.inl ha)
    · exact ih (fun z hz => h z (by simp [hz])) x hx
theorem snO_al (l : List (Oq × Int)) (h : ∀ z ∈ l, Wf z) : ∀ x ∈ snO l, al0 x := by
  induction l with
  | nil => intro x hx; cases hx
  | cons y l ih =>
    intro x hx
    rw [snO] at hx
    rcases List.mem_append.1 hx with hx | hx
    · have hy := h y (by simp)
      have ha := hy.1
      rcases wf_cases hy with ⟨n, rfl⟩ | ⟨t, rfl⟩ | ⟨t, rfl⟩ | ⟨t, rfl⟩ | ⟨t, rfl⟩ | ⟨t, rfl⟩ <;> simp at hx <;> subst hx <;> first | exact ha | exact al0_kept (Or.inr ha)
    · exact ih (fun z hz => h z (by simp [hz])) x hx

/-- what is right of a row, in short -/
theorem rs_none (o : Int) (l : List Oq) : l.foldl (rs o) none = none := by
  induction l with
  | nil => rfl
  | cons x l ih => rw [List.foldl_cons]; unfold rs; split <;> exact ih
theorem nx_rep (n : Nat) (l : List Ut) (e : Bool) : nx (List.replicate (n + 1) Ut.s ++ l) e = (!e && nx l false) := by
  induction n generalizing e with
  | zero => rfl
  | succ n ih => rw [List.replicate_succ, List.cons_append, nx_s, ih]; simp
theorem ox_rep (n : Nat) (l : List Ut) (e : Bool) : ox (List.replicate (n + 1) Ut.s ++ l) e = (!e && ox l false) := by
  induction n generalizing e with
  | zero => rfl
  | succ n ih => rw [List.replicate_succ, List.cons_append, ox_s, ih]; simp
theorem al_cases {x : Oq} (h : al0 x) : (∃ n : Nat, x = (1, ((n + 1 : Nat) : Int), [])) ∨ (∃ t, x = (2, 0, t)) ∨ (∃ t, x = (3, 0, t)) ∨ ∃ t, x = (4, 0, t) := by
  obtain ⟨k, n, t⟩ := x
  simp only [al0] at h
  rcases h with ⟨rfl, hn, rfl⟩ | ⟨h, rfl, _⟩
  · exact Or.inl ⟨(n - 1).toNat, by rw [show n = (((n - 1).toNat + 1 : Nat) : Int) by omega]; simp⟩
  · rcases h with rfl | rfl | rfl
    · exact Or.inr (Or.inl ⟨t, rfl⟩)
    · exact Or.inr (Or.inr (Or.inl ⟨t, rfl⟩))
    · exact Or.inr (Or.inr (Or.inr ⟨t, rfl⟩))
theorem nx_ex (l : List Oq) (h : ∀ x ∈ l, al0 x) : ∀ e, (l.foldl (rs 4) (some e)).isSome = nx (ex l) e := by
  induction l with
  | nil => intro e; rfl
  | cons x l ih =>
    intro e
    have i := ih (fun z hz => h z (by simp [hz]))
    rw [List.foldl_cons, ex]
    rcases al_cases (h x (by simp)) with ⟨n, rfl⟩ | ⟨t, rfl⟩ | ⟨t, rfl⟩ | ⟨t, rfl⟩
    · rw [ex1_n, nx_rep]
      cases e with
      | true => rw [show rs 4 (some true) (1, ((n + 1 : Nat) : Int), []) = none from rfl, rs_none]; rfl
      | false => rw [show rs 4 (some false) (1, ((n + 1 : Nat) : Int), []) = some false from rfl, i]; rfl
    · rw [ex1_k, List.singleton_append, nx_k]
      cases e with
      | true => rw [show rs 4 (some true) (2, 0, t) = none from rfl, rs_none]; rfl
      | false => rw [show rs 4 (some false) (2, 0, t) = some (!cl t) from rfl, i]; rfl
    · rw [ex1_d, List.singleton_append, nx_d, show rs 4 (some e) (3, 0, t) = some e from rfl, i]
    · rw [ex1_i, List.singleton_append, nx_i]
      cases e with
      | true => rw [show rs 4 (some true) (4, 0, t) = none from rfl, rs_none]; rfl
      | false => rw [show rs 4 (some false) (4, 0, t) = some (!cl t) from rfl, i]; rfl
theorem ox_ex (l : List Oq) (h : ∀ x ∈ l, al0 x) : ∀ e, (l.foldl (rs 3) (some e)).isSome = ox (ex l) e := by
  induction l with
  | nil => intro e; rfl
  | cons x l ih =>
    intro e
    have i := ih (fun z hz => h z (by simp [hz]))
    rw [List.foldl_cons, ex]
    rcases al_cases (h x (by simp)) with ⟨n, rfl⟩ | ⟨t, rfl⟩ | ⟨t, rfl⟩ | ⟨t, rfl⟩
    · rw [ex1_n, ox_rep]
      cases e with
      | true => rw [show rs 3 (some true) (1, ((n + 1 : Nat) : Int), []) = none from rfl, rs_none]; rfl
      | false => rw [show rs 3 (some false) (1, ((n + 1 : Nat) : Int), []) = some false from rfl, i]; rfl
    · rw [ex1_k, List.singleton_append, ox_k]
      cases e with
      | true => rw [show rs 3 (some true) (2, 0, t) = none from rfl, rs_none]; rfl
      | false => rw [show rs 3 (some false) (2, 0, t) = some (!cl t) from rfl, i]; rfl
    · rw [ex1_d, List.singleton_append, ox_d]
      cases e with
      | true => rw [show rs 3 (some true) (3, 0, t) = none from rfl, rs_none]; rfl
      | false => rw [show rs 3 (some false) (3, 0, t) = some (!cl t) from rfl, i]; rfl
    · rw [ex1_i, List.singleton_append, ox_i, show rs 3 (some e) (4, 0, t) = some e from rfl, i]
theorem right_u {l : List Oq} (h : ∀ x ∈ l, al0 x) : right (nrm l) = true ↔ ox (ex l) false = true ∧ nx (ex l) false = true ∧ su u3 (ex l) ≤ 2147483648 ∧ su u4 (ex l) ≤ 2147483648 := by
  obtain ⟨s3, s4, _⟩ := su_facts l h
  rw [right_nrm_iff h, s3, s4, ← nx_ex l h, ← ox_ex l h]; exact Iff.rfl
theorem right_ux {l : List Oq} (h : right l = true) : ox (ex l) false = true ∧ nx (ex l) false = true ∧ su u3 (ex l) ≤ 2147483648 ∧ su u4 (ex l) ≤ 2147483648 :=
  (right_u (right_al0 h)).1 (right_nrm h)

/-- what stands behind an answer -/
structure Sw (p q x y : List Oq) (r : List (Oq × Int) × Bool) : Prop where
  rp : right p = true
  rq : right q = true
  hw : wk (p.length + q.length + 1) false p q = some r
  rb : right (nrm (byO r)) = true
  r2 : r.2 = false
  hn : nbO 0 r.1 = false
  rx : right x = true
  ry : right y = true
  ex_ : x = nrm (fsO r.1)
  ey : y = nrm (snO r.1)
theorem swp_some {p q x y : List Oq} (h : swp p q = (x, y, 0)) : ∃ r, Sw p q x y r := by
  unfold swp at h
  split at h
  · rename_i hr
    cases hw : wk (p.length + q.length + 1) false p q with
    | none => rw [hw] at h; simp at h
    | some r =>
      rw [hw] at h
      simp only at h
      split at h
      · rename_i hb
        split at h
        · simp at h
        · rename_i hc
          simp only [not_or, Classical.not_not] at hc
          simp only [Prod.mk.injEq, and_true] at h
          obtain ⟨rfl, rfl⟩ := h
          exact ⟨r, hr.1, hr.2, hw, hb, by simpa using hc.1, by simpa using hc.2.1, hc.2.2.1, hc.2.2.2, rfl, rfl⟩
      · simp at h
  · simp at h
theorem swp_none {p q : List Oq} (h : (swp p q).2.2 ≠ 0) : (swp p q).1 = [] ∧ (swp p q).2.1 = [] := by
  unfold swp at h ⊢
  split
  · rename_i hr
    rw [if_pos hr] at h
    cases hw : wk (p.length + q.length + 1) false p q with
    | none => exact ⟨rfl, rfl⟩
    | some r =>
      rw [hw] at h
      simp only at h ⊢
      split
      · rename_i hb
        rw [if_pos hb] at h
        split
        · exact ⟨rfl, rfl⟩
        · rename_i hc; rw [if_neg hc] at h; exact absurd rfl h
      · exact ⟨rfl, rfl⟩
  · exact ⟨rfl, rfl⟩
/-- where both can be done they go together: only their order may stand in the way -/
theorem swp_fits {p q : List Oq} {old a b : List Tx} (h1 : doo p old = some a) (h2 : doo q a = some b) (hl : old.length ≤ 2147483648) (hl2 : b.length ≤ 2147483648) : (swp p q).2.2 = 0 ∨ (swp p q).2.2 = 7 := by
  obtain ⟨l, ht, _⟩ := thn_does h1 h2 hl hl2
  obtain ⟨rp, rq, rl, _, r, hw, el, _⟩ := thn_some ht
  unfold swp
  rw [if_pos ⟨rp, rq⟩, hw]
  simp only
  rw [el] at rl
  rw [if_pos rl]
  split
  · exact Or.inr rfl
  · exact Or.inl rfl
namespace Sw
variable {p q x y : List Oq} {r : List (Oq × Int) × Bool}
theorem wf (h : Sw p q x y r) : ∀ z ∈ r.1, Wf z := wk_wf _ _ _ _ _ (right_ok h.rp) (right_ok h.rq) h.hw
theorem ct (h : Sw p q x y r) : ct false (ex p) (ex q) = some (exB r.1, false) := by
  have c := wk_ct (p.length + q.length + 1) false p q (right_ok h.rp) (right_ok h.rq) (Nat.lt_succ_self _)
  rw [h.hw] at c
  rw [← c, Option.map_some, h.r2]
theorem nb (h : Sw p q x y r) : nb 0 (exB r.1) = false := by rw [← nbO_nb r.1 h.wf 0]; exact h.hn
theorem exx (h : Sw p q x y r) : ex x = lin (fs (exB r.1)) := by rw [h.ex_, ex_nrm _ (fsO_al _ h.wf), ex_fsO _ h.wf]
theorem exy (h : Sw p q x y r) : ex y = lin (sn (exB r.1)) := by rw [h.ey, ex_nrm _ (snO_al _ h.wf), ex_snO _ h.wf]
theorem al (h : Sw p q x y r) : ∀ z ∈ byO r, al0 z := byO_al (right_ok h.rp) (right_ok h.rq) h.hw
theorem tu_ (_h : Sw p q x y r) : (exB r.1).map tu = ex (byO r) := exB_tu r.1
end Sw
/-- in the other order they do what both do -/
theorem swp_does {p q x y : List Oq} {old a b : List Tx} (h : swp p q = (x, y, 0)) (h1 : doo p old = some a) (h2 : doo q a = some b) : ∃ c, doo x old = some c ∧ doo y c = some b := by
  obtain ⟨r, S⟩ := swp_some h
  obtain ⟨rp, wo, o1, p1, d1, e1, wa, n1⟩ := doo_some h1
  obtain ⟨rq, _, o2, p2, d2, e2, wb, n2⟩ := doo_some h2
  have u1 : rnu (ex p) old = some a := by rw [← rnu_dsl (right_al0 rp), d1, e1]; rfl
  have u2 : rnu (ex q) a = some b := by rw [← rnu_dsl (right_al0 rq), d2, e2]; rfl
  obtain ⟨u, hu, hb⟩ := ce_does _ false (ex p) (ex q) old a b (Nat.lt_succ_self _) u1 u2 wa (fun h => by cases h)
  have c1 := wk_ce (p.length + q.length + 1) false p q (right_ok rp) (right_ok rq) (Nat.lt_succ_self _)
  rw [S.hw, hu] at c1
  simp only [Option.map_some, Option.some.injEq] at c1
  subst c1
  rw [← S.tu_] at hb
  obtain ⟨c, hc1, hc2⟩ := fs_does _ _ _ hb
  have afs := fsO_al _ S.wf
  have asn := snO_al _ S.wf
  have hrx := S.rx
  rw [S.ex_] at hrx
  have hnx := ((right_u afs).1 hrx).2.1
  rw [ex_fsO _ S.wf] at hnx
  have wc := fs_whole _ false _ _ _ hnx hb hc1 wo wb
  refine ⟨c, ?_, ?_⟩
  · rw [← ex_fsO _ S.wf, ← rnu_dsl afs] at hc1
    obtain ⟨⟨o, pp⟩, hd, hs⟩ := Option.map_eq_some_iff.1 hc1
    simp only at hs
    have hdn : dsl old (nrm (fsO r.1)) = some (o, pp) := (dsl_nfo old _ afs).trans hd
    rw [S.ex_]
    unfold doo
    rw [if_pos ⟨hrx, wo⟩, hdn]
    simp only
    rw [hs, if_pos wc]
  · have hry := S.ry
    rw [S.ey] at hry
    rw [← ex_snO _ S.wf, ← rnu_dsl asn] at hc2
    obtain ⟨⟨o, pp⟩, hd, hs⟩ := Option.map_eq_some_iff.1 hc2
    simp only at hs
    have hdn : dsl c (nrm (snO r.1)) = some (o, pp) := (dsl_nfo c _ asn).trans hd
    rw [S.ey]
    unfold doo
    rw [if_pos ⟨hry, wc⟩, hdn]
    simp only
    rw [hs, if_pos wb]

end Go.Proofs.Ytcjjboomljbmbaa.Ol
