
/-
  Plain laws of steps of which some changes are picked: what was picked, and then the rest, do what all did; all picked is all, none picked leaves all; of what was picked some may be picked again; the rows of changes; no condition but those that each states.
-/
import Derived.Test.YtcjjboomljbmbaaXBack
namespace Go.Proofs.Ytcjjboomljbmbaa.Ol
open Go.Proofs.Ytcjjboomljbmbaa.Ln

/-- steps, with whether they are picked -/
def tgs : List Bool → List Oq → List (Oq × Int)
  | _, [] => []
  | b, x :: l => if chg x = true then (x, if b.headD false = true then 2 else 1) :: tgs b.tail l else (x, 0) :: tgs b l
/-- what is picked, and the rest -/
def pck (l : List Oq) (b : List Bool) : List Oq × List Oq :=
  if right l = true then
    if right (nrm (fsO (tgs b (nrm l)))) = true ∧ right (nrm (snO (tgs b (nrm l)))) = true then (nrm (fsO (tgs b (nrm l))), nrm (snO (tgs b (nrm l)))) else ([], [])
  else ([], [])
def tgu : List Bool → List Ut → List Tg
  | _, [] => []
  | b, .s :: l => .s :: tgu b l
  | b, .k t :: l => .k t :: tgu b l
  | b, .d t :: l => (if b.headD false = true then .d2 t else .d1 t) :: tgu b.tail l
  | b, .i t :: l => (if b.headD false = true then .i2 t else .i1 t) :: tgu b.tail l
theorem chg_of (x : Oq) : chg x = true ↔ x.1 = 3 ∨ x.1 = 4 := by simp [chg]
theorem tgs_fst (l : List Oq) : ∀ b, (tgs b l).map (·.1) = l := by
  induction l with
  | nil => intro b; rfl
  | cons x l ih => intro b; rw [tgs]; split <;> (rw [List.map_cons, ih])
theorem tgs_wf (l : List Oq) (h : ∀ x ∈ l, al0 x) : ∀ b, ∀ z ∈ tgs b l, Wf z := by
  induction l with
  | nil => intro b z hz; cases hz
  | cons x l ih =>
    intro b z hz
    have hx := h x (by simp)
    have i := ih (fun y hy => h y (by simp [hy]))
    rw [tgs] at hz
    split at hz
    · rename_i hc
      rcases List.mem_cons.1 hz with rfl | hz
      · exact ⟨hx, Or.inr ⟨by show (if b.headD false = true then (2 : Int) else 1) = 1 ∨ (if b.headD false = true then (2 : Int) else 1) = 2; split <;> simp, (chg_of x).1 hc⟩⟩
      · exact i _ z hz
    · rename_i hc
      rcases List.mem_cons.1 hz with rfl | hz
      · refine ⟨hx, Or.inl ⟨rfl, ?_⟩⟩
        rw [chg_of] at hc
        show x.1 = 1 ∨ x.1 = 2
        rcases hx with ⟨h1, _⟩ | ⟨h1, _⟩ <;> omega
      · exact i _ z hz
theorem tgu_rep (n : Nat) (b : List Bool) (l : List Ut) : tgu b (List.replicate n Ut.s ++ l) = List.replicate n Tg.s ++ tgu b l := by
  induction n with
  | zero => rfl
  | succ n ih => rw [List.replicate_succ, List.cons_append, tgu, ih, List.replicate_succ, List.cons_append]
theorem exB_tgs (l : List Oq) (h : ∀ x ∈ l, al0 x) : ∀ b, exB (tgs b l) = tgu b (ex l) := by
  induction l with
  | nil => intro b; rfl
  | cons x l ih =>
    intro b
    have i := ih (fun y hy => h y (by simp [hy]))
    rcases al_cases (h x (by simp)) with ⟨n, rfl⟩ | ⟨t, rfl⟩ | ⟨t, rfl⟩ | ⟨t, rfl⟩
    · rw [tgs, if_neg (by simp [chg]), exB, exB1_n, ex, ex1_n, tgu_rep, i]
    · rw [tgs, if_neg (by simp [chg]), exB, ex, ex1_k, List.singleton_append, tgu, i]; rfl
    · rw [tgs, if_pos (by simp [chg]), exB, ex, ex1_d, List.singleton_append, tgu, i]
      cases b.headD false <;> rfl
    · rw [tgs, if_pos (by simp [chg]), exB, ex, ex1_i, List.singleton_append, tgu, i]
      cases b.headD false <;> rfl
theorem tgu_tu (l : List Ut) : ∀ b, (tgu b l).map tu = l := by
  induction l with
  | nil => intro b; rfl
  | cons x l ih =>
    intro b
    cases x with
    | s => simp only [tgu, List.map_cons, tu, ih]
    | k t => simp only [tgu, List.map_cons, tu, ih]
    | d t => simp only [tgu, List.map_cons, ih]; cases b.headD false <;> rfl
    | i t => simp only [tgu, List.map_cons, ih]; cases b.headD false <;> rfl

/-- what stands behind an answer -/
theorem pck_some {l x y : List Oq} {b : List Bool} (h : pck l b = (x, y)) (hn : ¬ (x = [] ∧ y = [])) : right l = true ∧ right x = true ∧ right y = true ∧ x = nrm (fsO (tgs b (nrm l))) ∧ y = nrm (snO (tgs b (nrm l))) := by
  unfold pck at h
  split at h
  · rename_i hl
    split at h
    · rename_i hr
      simp only [Prod.mk.injEq] at h
      obtain ⟨rfl, rfl⟩ := h
      exact ⟨hl, hr.1, hr.2, rfl, rfl⟩
    · simp only [Prod.mk.injEq] at h; exact absurd ⟨h.1.symm, h.2.symm⟩ hn
  · simp only [Prod.mk.injEq] at h; exact absurd ⟨h.1.symm, h.2.symm⟩ hn
/-- what was picked, and then the rest, do what all did -/
theorem pck_does {l x y : List Oq} {b : List Bool} {old a : List Tx} (h : pck l b = (x, y)) (hn : ¬ (x = [] ∧ y = [])) (h1 : doo l old = some a) : ∃ c, doo x old = some c ∧ doo y c = some a := by
  obtain ⟨rl, rx, ry, e1, e2⟩ := pck_some h hn
  rw [← doo_nrm l old rl] at h1
  obtain ⟨rp, wo, o1, p1, d1, ea, wa, _⟩ := doo_some h1
  have an := right_al0 rp
  have u1 : rnu (ex (nrm l)) old = some a := by rw [← rnu_dsl an, d1, ea]; rfl
  have wf := tgs_wf _ an b
  have afs := fsO_al _ wf
  have asn := snO_al _ wf
  rw [← tgu_tu (ex (nrm l)) b, ← exB_tgs _ an] at u1
  obtain ⟨c, hc1, hc2⟩ := fs_does _ _ _ u1
  rw [e1] at rx
  rw [e2] at ry
  have hnx := ((right_u afs).1 rx).2.1
  rw [ex_fsO _ wf] at hnx
  have wc := fs_whole _ false _ _ _ hnx u1 hc1 wo wa
  refine ⟨c, ?_, ?_⟩
  · rw [← ex_fsO _ wf, ← rnu_dsl afs] at hc1
    obtain ⟨⟨o, pp⟩, hd, hs⟩ := Option.map_eq_some_iff.1 hc1
    simp only at hs
    have hdn : dsl old (nrm (fsO (tgs b (nrm l)))) = some (o, pp) := (dsl_nfo old _ afs).trans hd
    rw [e1]
    unfold doo
    rw [if_pos ⟨rx, wo⟩, hdn]
    simp only
    rw [hs, if_pos wc]
  · rw [← ex_snO _ wf, ← rnu_dsl asn] at hc2
    obtain ⟨⟨o, pp⟩, hd, hs⟩ := Option.map_eq_some_iff.1 hc2
    simp only at hs
    have hdn : dsl c (nrm (snO (tgs b (nrm l)))) = some (o, pp) := (dsl_nfo c _ asn).trans hd
    rw [e2]
    unfold doo
    rw [if_pos ⟨ry, wc⟩, hdn]
    simp only
    rw [hs, if_pos wa]

/-- the new side of the first is the old side of the second -/
theorem mid_same (l : List Tg) : (∀ e, ox (sn l) e = nx (fs l) e) ∧ su u3 (sn l) = su u4 (fs l) := by
  induction l with
  | nil => exact ⟨fun e => rfl, rfl⟩
  | cons x l ih =>
    obtain ⟨h1, h2⟩ := ih
    cases x <;> refine ⟨fun e => ?_, ?_⟩ <;> simp only [fs, sn, ox, nx, opU, su, u3, u4, h1, h2] <;> omega
theorem fs_cnt2 (l : List Tg) : su u3 (fs l) = su u3 (l.map tu) ∧ su u4 (sn l) = su u4 (l.map tu) := by
  induction l with
  | nil => exact ⟨rfl, rfl⟩
  | cons x l ih =>
    obtain ⟨h1, h2⟩ := ih
    cases x <;> refine ⟨?_, ?_⟩ <;> simp only [List.map_cons, tu, fs, sn, su, u3, u4] at h1 h2 ⊢ <;> omega
/-- all picked -/
theorem fsO_all (l : List Oq) : ∀ m, chs l ≤ m → fsO (tgs (List.replicate m true) l) = l ∧ chs (snO (tgs (List.replicate m true) l)) = 0 := by
  induction l with
  | nil => intro m _; exact ⟨rfl, rfl⟩
  | cons x l ih =>
    intro m hm
    have ec : chs (x :: l) = chs [x] + chs l := chs_app [x] l
    by_cases hc : chg x = true
    · have h1 : chs [x] = 1 := by simp [chs, hc]
      obtain ⟨k, rfl⟩ : ∃ k, m = k + 1 := ⟨m - 1, by omega⟩
      obtain ⟨i1, i2⟩ := ih k (by omega)
      rw [tgs, if_pos hc, List.replicate_succ]
      simp only [List.headD_cons, if_true, List.tail_cons, fsO, snO, i1]
      refine ⟨by simp, ?_⟩
      rw [chs_app, i2]
      by_cases h4 : x.1 = 4
      · simp [h4, chs, chg]
      · simp [h4, chs]
    · obtain ⟨i1, i2⟩ := ih m (by omega)
      rw [tgs, if_neg hc]
      simp only [fsO, snO, i1]
      refine ⟨by simp, ?_⟩
      rw [chs_app, i2]
      simp [chs, hc]
/-- nothing picked -/
theorem snO_nil (l : List Oq) : snO (tgs [] l) = l ∧ chs (fsO (tgs [] l)) = 0 := by
  induction l with
  | nil => exact ⟨rfl, rfl⟩
  | cons x l ih =>
    obtain ⟨i1, i2⟩ := ih
    by_cases hc : chg x = true
    · rw [tgs, if_pos hc]
      simp only [List.headD_nil, List.tail_nil, fsO, snO, i1]
      refine ⟨by simp, ?_⟩
      rw [chs_app, i2]
      by_cases h3 : x.1 = 3
      · simp [h3, chs, chg]
      · simp [h3, chs]
    · rw [tgs, if_neg hc]
      simp only [fsO, snO, i1]
      refine ⟨by simp, ?_⟩
      rw [chs_app, i2]
      simp [chs, hc]
theorem chs_nrm {l : List Oq} (h : ∀ x ∈ l, al0 x) : chs (nrm l) = chs l := (kept l h).ch
theorem pck_all {l : List Oq} (hl : right l = true) (m : Nat) (hm : chs l ≤ m) : ∃ y, pck l (List.replicate m true) = (nrm l, y) ∧ chs y = 0 := by
  have an := nrm_al0 (right_al0 hl)
  have hc := chs_nrm (right_al0 hl)
  obtain ⟨e1, e2⟩ := fsO_all (nrm l) m (by omega)
  have wf := tgs_wf _ an (List.replicate m true)
  have asn := snO_al _ wf
  have hr := right_ux (right_nrm hl)
  have hE := exB_tgs _ an (List.replicate m true)
  have hT := tgu_tu (ex (nrm l)) (List.replicate m true)
  have hF : fs (tgu (List.replicate m true) (ex (nrm l))) = ex (nrm l) := by rw [← hE, ← ex_fsO _ wf, e1]
  have R : right (nrm (snO (tgs (List.replicate m true) (nrm l)))) = true := by
    refine (right_u asn).2 ?_
    rw [ex_snO _ wf, hE, (mid_same _).1, (mid_same _).2, (sn_new _ false).2, (fs_cnt2 _).2, hF, hT]
    exact ⟨hr.2.1, hr.2.1, hr.2.2.2, hr.2.2.2⟩
  refine ⟨nrm (snO (tgs (List.replicate m true) (nrm l))), ?_, by rw [chs_nrm asn, e2]⟩
  unfold pck
  rw [if_pos hl, e1, nrm_nrm, if_pos ⟨right_nrm hl, R⟩]
theorem pck_nil {l : List Oq} (hl : right l = true) : ∃ x, pck l [] = (x, nrm l) ∧ chs x = 0 := by
  have an := nrm_al0 (right_al0 hl)
  obtain ⟨e1, e2⟩ := snO_nil (nrm l)
  have wf := tgs_wf _ an []
  have afs := fsO_al _ wf
  have hr := right_ux (right_nrm hl)
  have hE := exB_tgs _ an []
  have hT := tgu_tu (ex (nrm l)) []
  have hF : sn (tgu [] (ex (nrm l))) = ex (nrm l) := by rw [← hE, ← ex_snO _ wf, e1]
  have R : right (nrm (fsO (tgs [] (nrm l)))) = true := by
    refine (right_u afs).2 ?_
    rw [ex_fsO _ wf, hE, ← (mid_same _).1, ← (mid_same _).2, (fs_old _ false).2, (fs_cnt2 _).1, hF, hT]
    exact ⟨hr.1, hr.1, hr.2.2.1, hr.2.2.1⟩
  refine ⟨nrm (fsO (tgs [] (nrm l))), ?_, by rw [chs_nrm afs, e2]⟩
  unfold pck
  rw [if_pos hl, e1, nrm_nrm, if_pos ⟨R, right_nrm hl⟩]
/-- how many changes are picked -/
def pkn (b : List Bool) (n : Nat) : Nat := ((b.take n).filter id).length
theorem pkn_nil (n : Nat) : pkn [] n = 0 := by simp [pkn]
theorem chs_tgs (l : List Oq) : ∀ b, chs (fsO (tgs b l)) = pkn b (chs l) ∧ chs (snO (tgs b l)) + pkn b (chs l) = chs l := by
  induction l with
  | nil => intro b; exact ⟨by simp [tgs, fsO, chs, pkn], by simp [tgs, snO, chs, pkn]⟩
  | cons x l ih =>
    intro b
    have ec : chs (x :: l) = chs [x] + chs l := chs_app [x] l
    by_cases hc : chg x = true
    · have h1 : chs [x] = 1 := by simp [chs, hc]
      rw [ec, h1, tgs, if_pos hc, fsO, snO, chs_app, chs_app]
      obtain ⟨i1, i2⟩ := ih b.tail
      have hk := (chg_of x).1 hc
      cases b with
      | nil =>
        rw [List.tail_nil, pkn_nil] at i1 i2
        rw [pkn_nil]
        simp only [List.headD_nil, List.tail_nil, i1]
        rcases hk with h | h <;> simp [h, chs, chg] at i2 ⊢ <;> omega
      | cons c b =>
        have hp : pkn (c :: b) (1 + chs l) = (if c = true then 1 else 0) + pkn b (chs l) := by
          rw [Nat.add_comm 1]; cases c <;> simp [pkn]; omega
        rw [List.tail_cons] at i1 i2
        rw [hp]
        simp only [List.headD_cons, List.tail_cons, i1]
        cases c <;> rcases hk with h | h <;> simp [h, chs, chg] at i2 ⊢ <;> omega
    · have h1 : chs [x] = 0 := by simp [chs, hc]
      obtain ⟨i1, i2⟩ := ih b
      rw [ec, h1, tgs, if_neg hc, fsO, snO, chs_app, chs_app]
      simp only [true_or, if_true, h1, i1, Nat.zero_add]
      exact ⟨trivial, i2⟩
theorem pck_counts {l x y : List Oq} {b : List Bool} (h : pck l b = (x, y)) (hn : ¬ (x = [] ∧ y = [])) : chs x = pkn b (chs l) ∧ chs y + pkn b (chs l) = chs l := by
  obtain ⟨rl, rx, ry, e1, e2⟩ := pck_some h hn
  have an := nrm_al0 (right_al0 rl)
  have wf := tgs_wf _ an b
  have hc := chs_nrm (right_al0 rl)
  have := chs_tgs (nrm l) b
  rw [e1, e2, chs_nrm (fsO_al _ wf), chs_nrm (snO_al _ wf), ← hc]
  exact this

/-- in order: nothing goes behind what comes -/
def srt : List Ut → Bool
  | [] => true
  | .i _ :: l => !isD l && srt l
  | _ :: l => srt l
theorem srt_ins (t : Tx) (c : List Ut) (h : srt c = true) : srt (insI t c) = true := by
  induction c with
  | nil => rfl
  | cons x c ih =>
    cases x with
    | d u => exact ih h
    | s => exact h
    | k u => exact h
    | i u => show (!isD (.i u :: c) && srt (.i u :: c)) = true; rw [h]; rfl
theorem srt_lin (l : List Ut) : srt (lin l) = true := by
  induction l with
  | nil => rfl
  | cons x l ih =>
    cases x with
    | i t => exact srt_ins t _ ih
    | s => exact ih
    | k t => exact ih
    | d t => exact ih
theorem lin_srt (l : List Ut) (h : srt l = true) : lin l = l := by
  induction l with
  | nil => rfl
  | cons x l ih =>
    cases x with
    | s => rw [lin, ih h]; rfl
    | k t => rw [lin, ih h]; rfl
    | d t => rw [lin, ih h]; rfl
    | i t =>
      rw [srt, Bool.and_eq_true] at h
      rw [lin, ih h.2]
      have h1 : isD l = false := by simpa using h.1
      show insI t l = _
      cases l with
      | nil => rfl
      | cons y l => cases y <;> first | rfl | cases h1
theorem fs_isD (l : List Tg) (h : srt (l.map tu) = true) (h2 : isD (l.map tu) = false) : isD (fs l) = false := by
  induction l with
  | nil => rfl
  | cons x l ih =>
    cases x with
    | s => rfl
    | k t => rfl
    | d1 t => rfl
    | d2 t => cases h2
    | i2 t => rfl
    | i1 t =>
      rw [List.map_cons, tu, srt, Bool.and_eq_true] at h
      exact ih h.2 (by simpa using h.1)
theorem fs_srt (l : List Tg) (h : srt (l.map tu) = true) : srt (fs l) = true := by
  induction l with
  | nil => rfl
  | cons x l ih =>
    cases x with
    | s => exact ih h
    | k t => exact ih h
    | d1 t => exact ih h
    | d2 t => exact ih h
    | i1 t => rw [List.map_cons, tu, srt, Bool.and_eq_true] at h; exact ih h.2
    | i2 t =>
      rw [List.map_cons, tu, srt, Bool.and_eq_true] at h
      rw [fs, srt, Bool.and_eq_true]
      exact ⟨by rw [fs_isD l h.2 (by simpa using h.1)]; rfl, ih h.2⟩
/-- of what is picked, which are picked again -/
def ofs : List Bool → List Bool → List Bool
  | [], _ => []
  | b :: bs, s => if b = true then s.headD false :: ofs bs s.tail else ofs bs s.tail
def uch : List Ut → Nat
  | [] => 0
  | .d _ :: l => uch l + 1
  | .i _ :: l => uch l + 1
  | _ :: l => uch l
theorem get_tail (l : List Bool) (i : Nat) : l.tail.getD i false = l.getD (i + 1) false := by cases l <;> simp
theorem get_head (l : List Bool) : l.headD false = l.getD 0 false := by cases l <;> simp
theorem fs_parts (l : List Ut) : ∀ (more some_ : List Bool), (∀ i, some_.getD i false = true → more.getD i false = true) → fs (tgu (ofs (more.take (uch l)) some_) (fs (tgu more l))) = fs (tgu some_ l) := by
  induction l with
  | nil => intro m s _; rfl
  | cons x l ih =>
    intro m s h
    have ht : ∀ i, s.tail.getD i false = true → m.tail.getD i false = true := fun i hi => by rw [get_tail] at hi ⊢; exact h _ hi
    have i := ih m.tail s.tail ht
    cases x with
    | s => simp only [tgu, fs, uch]; rw [ih m s h]
    | k t => simp only [tgu, fs, uch]; rw [ih m s h]
    | d t =>
      simp only [tgu, uch]
      cases m with
      | nil =>
        have h0 : s.headD false = false := by
          have := h 0; rw [← get_head] at this
          cases hs : s.headD false with
          | false => rfl
          | true => rw [hs] at this; simp at this
        rw [List.tail_nil] at i
        simp only [List.take_nil, ofs] at i ⊢
        simp only [List.headD_nil, List.tail_nil, Bool.false_eq_true, if_false, fs, tgu, h0]
        rw [i]
      | cons b m =>
        rw [List.tail_cons] at i
        rw [List.take_succ_cons, ofs]
        cases b with
        | true =>
          simp only [List.headD_cons, if_true, List.tail_cons, fs, tgu]
          cases s.headD false <;> simp only [Bool.false_eq_true, if_true, if_false, fs] <;> rw [i]
        | false =>
          have h0 : s.headD false = false := by
            have := h 0; rw [← get_head] at this
            cases hs : s.headD false with
            | false => rfl
            | true => rw [hs] at this; simp at this
          simp only [List.headD_cons, Bool.false_eq_true, if_false, List.tail_cons, fs, tgu, h0]
          rw [i]
    | i t =>
      simp only [tgu, uch]
      cases m with
      | nil =>
        have h0 : s.headD false = false := by
          have := h 0; rw [← get_head] at this
          cases hs : s.headD false with
          | false => rfl
          | true => rw [hs] at this; simp at this
        rw [List.tail_nil] at i
        simp only [List.take_nil, ofs] at i ⊢
        simp only [List.headD_nil, List.tail_nil, Bool.false_eq_true, if_false, fs, h0]
        rw [i]
      | cons b m =>
        rw [List.tail_cons] at i
        rw [List.take_succ_cons, ofs]
        cases b with
        | true =>
          simp only [List.headD_cons, if_true, List.tail_cons, fs, tgu]
          cases s.headD false <;> simp only [Bool.false_eq_true, if_true, if_false, fs] <;> rw [i]
        | false =>
          have h0 : s.headD false = false := by
            have := h 0; rw [← get_head] at this
            cases hs : s.headD false with
            | false => rfl
            | true => rw [hs] at this; simp at this
          simp only [List.headD_cons, Bool.false_eq_true, if_false, List.tail_cons, fs, h0]
          rw [i]
theorem uch_ex (l : List Oq) (h : ∀ x ∈ l, al0 x) : uch (ex l) = chs l := by
  have hr : ∀ (n : Nat) (m : List Ut), uch (List.replicate n Ut.s ++ m) = uch m := by
    intro n m
    induction n with
    | zero => rfl
    | succ n ih => rw [List.replicate_succ]; exact ih
  induction l with
  | nil => rfl
  | cons x l ih =>
    have i := ih (fun z hz => h z (by simp [hz]))
    have ec : chs (x :: l) = chs [x] + chs l := chs_app [x] l
    rw [ex, ec, ← i]
    rcases al_cases (h x (by simp)) with ⟨n, rfl⟩ | ⟨t, rfl⟩ | ⟨t, rfl⟩ | ⟨t, rfl⟩
    · rw [ex1_n, hr]; simp [chs, chg]
    · rw [ex1_k]; simp [chs, chg, uch]
    · rw [ex1_d]; simp [chs, chg, uch]; omega
    · rw [ex1_i]; simp [chs, chg, uch]; omega
/-- it is one whether some are picked of all, or of more that were picked of all -/
theorem pck_parts {l x y a b c d : List Oq} {more some_ : List Bool} (hs : ∀ i, some_.getD i false = true → more.getD i false = true) (h1 : pck l more = (x, y)) (hn1 : ¬ (x = [] ∧ y = [])) (h2 : pck x (ofs (more.take (chs l)) some_) = (a, b)) (hn2 : ¬ (a = [] ∧ b = [])) (h3 : pck l some_ = (c, d)) (hn3 : ¬ (c = [] ∧ d = [])) : a = c := by
  obtain ⟨rl, rx, _, e1, _⟩ := pck_some h1 hn1
  obtain ⟨_, _, _, e2, _⟩ := pck_some h2 hn2
  obtain ⟨_, _, _, e3, _⟩ := pck_some h3 hn3
  have an := nrm_al0 (right_al0 rl)
  have wf1 := tgs_wf _ an more
  have wf3 := tgs_wf _ an some_
  have ax := nrm_al0 (right_al0 rx)
  have wf2 := tgs_wf _ ax (ofs (more.take (chs l)) some_)
  have hU : uch (ex (nrm l)) = chs l := by rw [uch_ex _ an, chs_nrm (right_al0 rl)]
  have hsrt : srt (fs (tgu more (ex (nrm l)))) = true := by
    refine fs_srt _ ?_
    rw [tgu_tu, ex_nrm _ (right_al0 rl)]
    exact srt_lin _
  have hxe : ex (nrm x) = fs (tgu more (ex (nrm l))) := by
    rw [e1, nrm_nrm, ex_nrm _ (fsO_al _ wf1), ex_fsO _ wf1, exB_tgs _ an, lin_srt _ hsrt]
  rw [e2, e3]
  refine nrm_same (fsO_al _ wf2) (fsO_al _ wf3) ?_
  rw [ex_fsO _ wf2, ex_fsO _ wf3, exB_tgs _ ax, exB_tgs _ an, hxe, ← hU, fs_parts _ _ _ hs]

end Go.Proofs.Ytcjjboomljbmbaa.Ol
