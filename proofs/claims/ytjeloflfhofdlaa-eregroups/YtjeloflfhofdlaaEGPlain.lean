/-
  A text with brackets around it, two with a sign between, and two one behind the other, are read as the texts themselves are read, or are too large; conditions: that the texts are read whole, and how long they are.
-/
import Derived.Test.YtjeloflfhofdlaaEPlain
namespace Go.Proofs.Ytjeloflfhofdlaa.Gl

/-- read so, or too large -/
def Or4 {α : Type} (r : Rs α) (x : α) (m : Nat) : Prop := r = .ok x m ∨ ∃ k, r = .er k 4
theorem Or4.far {α : Type} {r : Rs α} {x : α} {m : Nat} (h : Or4 r x m) (k : Nat) : Or4 (r.far k) x (k + m) := by
  rcases h with rfl | ⟨j, rfl⟩
  · exact Or.inl rfl
  · exact Or.inr ⟨_, rfl⟩
theorem Or4.map {α β : Type} {r : Rs α} {x : α} {m : Nat} (h : Or4 r x m) (f : α → β) : Or4 (r.map f) (f x) m := by
  rcases h with rfl | ⟨j, rfl⟩
  · exact Or.inl rfl
  · exact Or.inr ⟨_, rfl⟩
theorem far_ok {α : Type} {r : Rs α} {k : Nat} {x : α} {m : Nat} (h : r.far k = .ok x m) : ∃ j, r = .ok x j ∧ m = k + j := by
  cases r with
  | ok y j => cases h; exact ⟨j, rfl, rfl⟩
  | er a b => cases h
theorem map_ok {α β : Type} {r : Rs α} {f : α → β} {x : β} {m : Nat} (h : r.map f = .ok x m) : ∃ y, r = .ok y m ∧ x = f y := by
  cases r with
  | ok y j => cases h; exact ⟨y, rfl, rfl⟩
  | er a b => cases h
theorem getD_app {l : Tx} (t : Tx) {k : Nat} (h : k < l.length) : (l ++ t).getD k 0 = l.getD k 0 := by
  simp [List.getD_eq_getElem?_getD, List.getElem?_append_left h]
theorem drop_app_le {l : Tx} (t : Tx) {k : Nat} (h : k ≤ l.length) : (l ++ t).drop k = l.drop k ++ t := List.drop_append_of_le_length h
theorem head_ext (l t : Tx) (c : UInt8) (h0 : c ≠ 0) (h41 : c ≠ 41) : ((l ++ 41 :: t).getD 0 0 = c) ↔ (l.getD 0 0 = c) := by
  cases l with
  | nil => exact ⟨fun e => absurd (show (41 : UInt8) = c from e).symm h41, fun e => absurd (show (0 : UInt8) = c from e).symm h0⟩
  | cons b s => exact Iff.rfl
theorem head_cons (c : UInt8) (t : Tx) : (c :: t).getD 0 0 = c := rfl
theorem ds_ext (l t : Tx) : ds (l ++ 41 :: t) = ds l := by
  induction l with
  | nil => exact ds_cons_no (by decide)
  | cons b l ih =>
    cases hb : dig b with
    | true => rw [List.cons_append, ds_cons_dig hb, ds_cons_dig hb, ih]
    | false => rw [List.cons_append, ds_cons_no hb, ds_cons_no hb]
theorem countR_ext (l t : Tx) : countR (l ++ 41 :: t) = countR l := by unfold countR; rw [ds_ext]
theorem timesR_ext (l t : Tx) : timesR (l ++ 41 :: t) = timesR l := by
  unfold timesR
  rw [countR_ext]
  cases hc : countR l with
  | none => rfl
  | some q =>
    obtain ⟨lo, m⟩ := q
    have hm : m ≤ l.length := (countR_le hc).2
    simp only []
    rw [drop_app_le _ hm]
    simp only [head_ext (l.drop m) t 44 (by decide) (by decide), head_ext (l.drop m) t 125 (by decide) (by decide)]
    by_cases h44 : (l.drop m).getD 0 0 = 44
    · have h1 := getD_pos h44 (by decide)
      rw [List.length_drop] at h1
      rw [if_pos h44, if_pos h44, drop_app_le _ (by omega), countR_ext]
      simp only [head_ext (l.drop (m + 1)) t 125 (by decide) (by decide)]
      cases hc2 : countR (l.drop (m + 1)) with
      | none => rfl
      | some q2 =>
        obtain ⟨hi, m2⟩ := q2
        have hm2 : m2 ≤ (l.drop (m + 1)).length := (countR_le hc2).2
        rw [List.length_drop] at hm2
        simp only []
        rw [drop_app_le _ (by omega)]
        simp only [head_ext (l.drop (m + 1 + m2)) t 125 (by decide) (by decide)]
    · rw [if_neg h44, if_neg h44]

/-! sets -/
theorem isCls_ext (l t : Tx) : isCls (l ++ 41 :: t) = isCls l := by
  by_cases h9 : 9 ≤ l.length
  · unfold isCls; rw [List.take_append_of_le_length h9]
  · have h1 : isCls l = false := by
      cases h : isCls l with
      | false => rfl
      | true => exact absurd (isCls_len h) h9
    rw [h1]
    cases h : isCls (l ++ 41 :: t) with
    | false => rfl
    | true =>
      have hm : (41 : UInt8) ∈ (l ++ 41 :: t).take 9 := by
        rw [List.take_append]
        obtain ⟨n, hn⟩ : ∃ n, 9 - l.length = n + 1 := ⟨8 - l.length, by omega⟩
        rw [hn, List.take_succ_cons]
        simp
      rcases isCls_cases h with h | h | h | h | h | h <;> (rw [h] at hm; exact absurd hm (by decide))
theorem isDash_ext (l t : Tx) (h : 2 ≤ l.length ∨ l.getD 0 0 ≠ 45) (h0 : 0 < l.length) : isDash (l ++ 41 :: t) = isDash l := by
  unfold isDash
  rw [getD_app _ h0]
  by_cases h2 : 2 ≤ l.length
  · rw [getD_app _ (by omega), drop_app_le _ (by omega), isCls_ext, List.length_append]
    simp [show 1 < l.length by omega, show 1 < l.length + (t.length + 1) by omega]
  · have h45 : (l.getD 0 0 == 45) = false := by
      rcases h with h | h
      · exact absurd h h2
      · simpa using h
    rw [h45]
    simp
theorem byteLen_no (l : Tx) : byteLen false l = 1 := rfl
theorem byteVal_no (l : Tx) : byteVal false l = l.getD 0 0 := rfl
theorem item_ext (l t : Tx) (h2 : 2 ≤ l.length) (h : 3 ≤ l.length ∨ l.getD 1 0 ≠ 45) : itemLen false (l ++ 41 :: t) = itemLen false l ∧ itemSet false (l ++ 41 :: t) = itemSet false l := by
  have hd : isDash ((l ++ 41 :: t).drop 1) = isDash (l.drop 1) := by
    rw [drop_app_le _ (by omega)]
    refine isDash_ext _ _ ?_ (by rw [List.length_drop]; omega)
    rcases h with h | h
    · exact Or.inl (by rw [List.length_drop]; omega)
    · exact Or.inr (by rw [drop_getD]; exact h)
  constructor
  · unfold itemLen
    rw [isCls_ext, byteLen_no, byteLen_no, hd]
    rfl
  · unfold itemSet
    rw [isCls_ext, byteLen_no, byteLen_no, hd, byteVal_no, byteVal_no, byteVal_no, byteVal_no, getD_app _ (by omega)]
    cases hc : isCls l with
    | true =>
      simp only [if_true]
      rw [List.take_append_of_le_length (isCls_len hc)]
    | false =>
      simp only [Bool.false_eq_true, if_false]
      cases hdd : isDash (l.drop 1) with
      | false => rfl
      | true =>
        have := isDash_len hdd
        rw [List.length_drop] at this
        simp only [if_true]
        rw [drop_app_le _ (by omega), getD_app _ (by rw [List.length_drop]; omega)]
theorem setGo_one {n : Nat} {d : UInt8} {s : Bs} {r : Bs × Nat} (h : setGo false n false [d] s = some r) : d = 93 := by
  cases n with
  | zero => cases h
  | succ n =>
    rw [setGo, if_neg (by simp)] at h
    split at h
    · rename_i h93; exact h93.1
    · cases hr : setGo false n false (([d] : Tx).drop (itemLen false [d])) (both s (itemSet false [d])) with
      | none => rw [hr] at h; cases h
      | some q =>
        have h1 := setGo_len false _ _ _ _ _ hr
        have h2 := itemLen_pos false [d]
        rw [List.length_drop] at h1
        simp at h1
        omega
theorem setGo_ext (t : Tx) : ∀ n n' first (l : Tx) s r, setGo false n first l s = some r → l.length ≤ n' → setGo false n' first (l ++ 41 :: t) s = some r := by
  intro n
  induction n with
  | zero => intro n' first l s r h; cases h
  | succ n ih =>
    intro n' first l s r h hn
    rw [setGo] at h
    by_cases hl : l = []
    · rw [if_pos hl] at h; cases h
    · rw [if_neg hl] at h
      have hp := List.length_pos_iff.2 hl
      obtain ⟨n', rfl⟩ : ∃ k, n' = k + 1 := ⟨n' - 1, by omega⟩
      rw [setGo, if_neg (by simp), getD_app _ hp]
      split at h
      · rename_i h93
        rw [if_pos h93]; exact h
      · rename_i h93
        rw [if_neg h93]
        cases hr : setGo false n false (l.drop (itemLen false l)) (both s (itemSet false l)) with
        | none => rw [hr] at h; cases h
        | some q =>
          rw [hr] at h
          have hrl := setGo_len false _ _ _ _ _ hr
          rw [List.length_drop] at hrl
          have hi := itemLen_pos false l
          have hit : itemLen false (l ++ 41 :: t) = itemLen false l ∧ itemSet false (l ++ 41 :: t) = itemSet false l := by
            refine item_ext l t (by omega) ?_
            by_cases h3 : 3 ≤ l.length
            · exact Or.inl h3
            · refine Or.inr ?_
              have h1 : itemLen false l = 1 := by omega
              rw [h1] at hr
              have hl2 : (l.drop 1).length = 1 := by rw [List.length_drop]; omega
              obtain ⟨d, hd⟩ := List.length_eq_one_iff.1 hl2
              rw [hd] at hr
              have h93 := setGo_one hr
              have : l.getD 1 0 = 93 := by
                have := drop_getD l 1 0
                rw [hd] at this
                rw [← this, ← h93]
                rfl
              rw [this]
              decide
          rw [hit.1, hit.2, drop_app_le _ (by omega), ih n' false _ _ _ hr (by rw [List.length_drop]; omega)]
          exact h
theorem negE_ext (l t : Tx) : negE (l ++ 41 :: t) = negE l := by cases l <;> rfl
theorem setE_ext {l : Tx} {r : Bs × Nat} (t : Tx) (h : setE l = some r) : setE (l ++ 41 :: t) = some r := by
  unfold setE at h ⊢
  have hn : negN (l ++ 41 :: t) = negN l := by unfold negN; rw [negE_ext]
  rw [hn, negE_ext, drop_app_le _ (negN_le l)]
  cases hr : setGo false (l.length + 1) true (l.drop (negN l)) none_ with
  | none => rw [hr] at h; cases h
  | some q =>
    rw [hr] at h
    rw [setGo_ext t _ _ _ _ _ _ hr (by rw [List.length_drop, List.length_append]; omega)]
    exact h

/-! what is read, with a closing bracket behind -/
def Ext (g g' : Tx → Rs Nd) (t : Tx) : Prop := ∀ l x m, l ≠ [] → g l = .ok x m → Or4 (g' (l ++ 41 :: t)) x m
theorem atomE_ext {g g' : Tx → Rs Nd} {t : Tx} (hg : Ext g g' t) : Ext (atomE g) (atomE g') t := by
  intro l x m hl h
  have hp := List.length_pos_iff.2 hl
  have hg2 := hg l x m hl
  unfold atomE at h ⊢
  simp only [] at h ⊢
  rw [getD_app _ hp]
  split at h
  · rename_i h40; rw [if_pos h40]; exact hg2 h
  rename_i h40
  rw [if_neg h40]
  split at h
  · rename_i h91
    rw [if_pos h91, drop_app_le _ hp]
    cases hs : setE (l.drop 1) with
    | none => rw [hs] at h; cases h
    | some r => rw [hs] at h; rw [setE_ext t hs]; exact Or.inl h
  rename_i h91
  rw [if_neg h91]
  split at h
  · cases h
  rename_i hsp
  rw [if_neg hsp]
  split at h
  · rename_i h1; rw [if_pos h1]; exact Or.inl h
  rename_i h94
  rw [if_neg h94]
  split at h
  · rename_i h1; rw [if_pos h1]; exact Or.inl h
  rename_i h36
  rw [if_neg h36]
  split at h
  · rename_i h1; rw [if_pos h1]; exact Or.inl h
  rename_i h46
  rw [if_neg h46]
  split at h
  · rename_i h92
    rw [if_pos h92]
    split at h
    · cases h
    · rename_i h2
      rw [if_neg (by rw [List.length_append]; omega), getD_app _ (by omega)]
      exact Or.inl h
  · rename_i h92; rw [if_neg h92]; exact Or.inl h
theorem postE_ext (t : Tx) : ∀ n n' d (l : Tx) x m, postE n d l = .ok x m → l.length < n → l.length < n' → postE n' d (l ++ 41 :: t) = .ok x m := by
  intro n
  induction n with
  | zero => intro n' d l x m _ h; omega
  | succ n ih =>
    intro n' d l x m h hn hn'
    obtain ⟨n', rfl⟩ : ∃ k, n' = k + 1 := ⟨n' - 1, by omega⟩
    rw [postE] at h ⊢
    simp only [head_ext l t 42 (by decide) (by decide), head_ext l t 43 (by decide) (by decide), head_ext l t 63 (by decide) (by decide), head_ext l t 123 (by decide) (by decide)]
    have one : ∀ d', (postE n d' (l.drop 1)).far 1 = .ok x m → 0 < l.length → (postE n' d' ((l ++ 41 :: t).drop 1)).far 1 = .ok x m := by
      intro d' h h0
      obtain ⟨j, hj, rfl⟩ := far_ok h
      rw [drop_app_le _ h0, ih n' d' _ _ _ hj (by rw [List.length_drop]; omega) (by rw [List.length_drop]; omega)]
      rfl
    split at h
    · rename_i hc; rw [if_pos hc]; exact one _ h (getD_pos hc (by decide))
    rename_i h42
    rw [if_neg h42]
    split at h
    · rename_i hc; rw [if_pos hc]; exact one _ h (getD_pos hc (by decide))
    rename_i h43
    rw [if_neg h43]
    split at h
    · rename_i hc; rw [if_pos hc]; exact one _ h (getD_pos hc (by decide))
    rename_i h63
    rw [if_neg h63]
    split at h
    · rename_i hc
      rw [if_pos hc]
      have h0 := getD_pos hc (by decide)
      rw [drop_app_le _ h0, timesR_ext]
      cases ht : timesR (l.drop 1) with
      | none => rw [ht] at h; cases h
      | some r =>
        rw [ht] at h
        have hr := timesR_le ht
        rw [List.length_drop] at hr
        simp only [] at h ⊢
        obtain ⟨j, hj, rfl⟩ := far_ok h
        rw [drop_app_le _ (by omega), ih n' _ _ _ _ hj (by rw [List.length_drop]; omega) (by rw [List.length_drop]; omega)]
        rfl
    · rename_i hc; rw [if_neg hc]; exact h
theorem pieceE_ext {g g' : Tx → Rs Nd} {t : Tx} (hT : Tame g) (hg : Ext g g' t) : Ext (pieceE g) (pieceE g') t := by
  intro l x m hl h
  have ht := atomE_tame hT l hl
  have he := atomE_ext hg l
  unfold pieceE at h ⊢
  cases ha : atomE g l with
  | er a b => rw [ha] at h; cases h
  | ok d k =>
    rw [ha] at h ht
    have hk : k ≤ l.length := ht.1
    simp only [] at h
    obtain ⟨j, hj, rfl⟩ := far_ok h
    rcases he d k hl ha with e | ⟨i, e⟩
    · rw [e]
      simp only []
      rw [drop_app_le _ hk, postE_ext t _ _ _ _ _ _ hj (by rw [List.length_drop]; omega) (by rw [List.length_drop, List.length_append]; omega)]
      exact Or.inl rfl
    · rw [e]; exact Or.inr ⟨i, rfl⟩
theorem ends_ext (l t : Tx) : ends (l ++ 41 :: t) = ends l := by cases l <;> rfl
theorem piecesE_ext {g g' : Tx → Rs Nd} {t : Tx} (hT : Tame g) (hg : Ext g g' t) : ∀ n n' (l : Tx) x m, piecesE g n l = .ok x m → l.length < n → l.length < n' → Or4 (piecesE g' n' (l ++ 41 :: t)) x m := by
  intro n
  induction n with
  | zero => intro n' l x m _ h; omega
  | succ n ih =>
    intro n' l x m h hn hn'
    obtain ⟨n', rfl⟩ : ∃ k, n' = k + 1 := ⟨n' - 1, by omega⟩
    rw [piecesE] at h ⊢
    rw [ends_ext]
    split at h
    · rename_i he; rw [if_pos he]; exact Or.inl h
    · rename_i he
      rw [if_neg he]
      have hl := ends_ne (by simpa using he)
      have ht := pieceE_tame hT l hl
      cases hp : pieceE g l with
      | er a b => rw [hp] at h; cases h
      | ok d k =>
        rw [hp] at h ht
        have hk : k ≤ l.length := ht.1
        have hk1 := ht.2 d k rfl
        simp only [] at h
        obtain ⟨j, hj, rfl⟩ := far_ok h
        obtain ⟨y, hy, rfl⟩ := map_ok hj
        rcases pieceE_ext hT hg l d k hl hp with e | ⟨i, e⟩
        · rw [e]
          simp only []
          rw [drop_app_le _ hk]
          exact ((ih n' _ _ _ hy (by rw [List.length_drop]; omega) (by rw [List.length_drop]; omega)).map _).far k
        · rw [e]; exact Or.inr ⟨i, rfl⟩
theorem branchE_ext {g g' : Tx → Rs Nd} {t : Tx} (hT : Tame g) (hg : Ext g g' t) (l : Tx) (x : Nd) (m : Nat) (h : branchE g l = .ok x m) : Or4 (branchE g' (l ++ 41 :: t)) x m := by
  unfold branchE at h ⊢
  obtain ⟨y, hy, rfl⟩ := map_ok h
  exact (piecesE_ext hT hg _ _ _ _ _ hy (by omega) (by rw [List.length_append]; omega)).map _
theorem branchesE_ext {g g' : Tx → Rs Nd} {t : Tx} (hT : Tame g) (hg : Ext g g' t) : ∀ n n' (l : Tx) x m, branchesE g n l = .ok x m → l.length < n → l.length < n' → Or4 (branchesE g' n' (l ++ 41 :: t)) x m := by
  intro n
  induction n with
  | zero => intro n' l x m _ h; omega
  | succ n ih =>
    intro n' l x m h hn hn'
    obtain ⟨n', rfl⟩ : ∃ k, n' = k + 1 := ⟨n' - 1, by omega⟩
    have hbl := branchE_le hT l
    rw [branchesE] at h ⊢
    cases hb : branchE g l with
    | er a b => rw [hb] at h; cases h
    | ok d k =>
      rw [hb] at h hbl
      have hk : k ≤ l.length := hbl
      simp only [] at h
      rcases branchE_ext hT hg l d k hb with e | ⟨i, e⟩
      · rw [e]
        simp only []
        rw [drop_app_le _ hk]
        simp only [head_ext (l.drop k) t 124 (by decide) (by decide)]
        split at h
        · rename_i hc
          have h0 := getD_pos hc (by decide)
          rw [List.length_drop] at h0
          rw [if_pos hc, drop_app_le _ (by omega)]
          obtain ⟨j, hj, rfl⟩ := far_ok h
          obtain ⟨y, hy, rfl⟩ := map_ok hj
          exact ((ih n' _ _ _ hy (by rw [List.length_drop]; omega) (by rw [List.length_drop]; omega)).map _).far (k + 1)
        · rename_i hc
          rw [if_neg hc]
          exact Or.inl h
      · rw [e]; exact Or.inr ⟨i, rfl⟩
theorem exprE_ext {g g' : Tx → Rs Nd} {t : Tx} (hT : Tame g) (hg : Ext g g' t) (l : Tx) (x : Nd) (m : Nat) (h : exprE g l = .ok x m) : Or4 (exprE g' (l ++ 41 :: t)) x m := by
  unfold exprE at h ⊢
  obtain ⟨y, hy, rfl⟩ := map_ok h
  exact (branchesE_ext hT hg _ _ _ _ _ hy (by omega) (by rw [List.length_append]; omega)).map _
theorem grpE_ext (t : Tx) : ∀ d d', Ext (grpE d) (grpE d') t := by
  intro d
  induction d with
  | zero => intro d' l x m _ h; cases h
  | succ d ih =>
    intro d' l x m hl h
    cases d' with
    | zero => exact Or.inr ⟨0, rfl⟩
    | succ d' =>
      have hp := List.length_pos_iff.2 hl
      rw [grpE] at h ⊢
      rw [drop_app_le _ hp]
      cases hx : exprE (grpE d) (l.drop 1) with
      | er a b => rw [hx] at h; cases h
      | ok y k =>
        rw [hx] at h
        simp only [] at h
        split at h
        · rename_i hc
          have h0 := getD_pos hc (by decide)
          rw [List.length_drop] at h0
          rcases exprE_ext (grpE_tame d) (ih d') (l.drop 1) y k hx with e | ⟨i, e⟩
          · rw [e]
            simp only []
            rw [drop_app_le _ (by omega), getD_app _ (by rw [List.length_drop]; omega), if_pos hc]
            exact Or.inl h
          · rw [e]; exact Or.inr ⟨_, rfl⟩
        · cases h

/-! groups of whole texts -/
/-- a text is read whole -/
def Whole (a : Tx) (x : Nd) : Prop := exprE (grpE 30) a = .ok x a.length
theorem grp_read {a : Tx} {x : Nd} (h : Whole a x) (d : Nat) (t : Tx) : Or4 (grpE (d + 1) (40 :: (a ++ 41 :: t))) x (a.length + 2) := by
  rw [grpE, show (40 :: (a ++ 41 :: t) : Tx).drop 1 = a ++ 41 :: t from rfl]
  rcases exprE_ext (grpE_tame 30) (grpE_ext t 30 d) a x a.length h with e | ⟨i, e⟩
  · rw [e]
    simp only []
    rw [show (40 :: (a ++ 41 :: t) : Tx).drop (1 + a.length) = 41 :: t by rw [← List.drop_drop]; simp, if_pos (head_cons 41 t)]
    exact Or.inl rfl
  · rw [e]; exact Or.inr ⟨_, rfl⟩
/-- no sign that says how often -/
def calm (t : Tx) : Prop := t.getD 0 0 ≠ 42 ∧ t.getD 0 0 ≠ 43 ∧ t.getD 0 0 ≠ 63 ∧ t.getD 0 0 ≠ 123
theorem calm_cons {c : UInt8} (t : Tx) (h : (c != 42 && c != 43 && c != 63 && c != 123) = true) : calm (c :: t) := by
  simp at h
  exact ⟨h.1.1.1, h.1.1.2, h.1.2, h.2⟩
theorem post_calm {t : Tx} (h : calm t) (n : Nat) (d : Nd) : postE (n + 1) d t = .ok d 0 := by
  rw [postE, if_neg h.1, if_neg h.2.1, if_neg h.2.2.1, if_neg h.2.2.2]
theorem piece_read {a : Tx} {x : Nd} (h : Whole a x) (d : Nat) {t : Tx} (ht : calm t) : Or4 (pieceE (grpE (d + 1)) (40 :: (a ++ 41 :: t))) x (a.length + 2) := by
  have ha : atomE (grpE (d + 1)) (40 :: (a ++ 41 :: t)) = grpE (d + 1) (40 :: (a ++ 41 :: t)) := by
    unfold atomE
    simp only []
    rw [if_pos (head_cons 40 _)]
  unfold pieceE
  rw [ha]
  rcases grp_read h d t with e | ⟨i, e⟩
  · rw [e]
    simp only []
    rw [show (40 :: (a ++ 41 :: t) : Tx).drop (a.length + 2) = t by rw [show a.length + 2 = 1 + a.length + 1 by omega, ← List.drop_drop, ← List.drop_drop]; simp, post_calm ht]
    exact Or.inl rfl
  · rw [e]; exact Or.inr ⟨_, rfl⟩
theorem pieces_cons {g : Tx → Rs Nd} {l : Tx} {x : Nd} {k n : Nat} {xs : List Nd} {j : Nat} (h : Or4 (pieceE g l) x k) (he : ends l = false) (hr : Or4 (piecesE g n (l.drop k)) xs j) : Or4 (piecesE g (n + 1) l) (x :: xs) (k + j) := by
  rw [piecesE, if_neg (by rw [he]; decide)]
  rcases h with e | ⟨i, e⟩
  · rw [e]; exact (hr.map _).far k
  · rw [e]; exact Or.inr ⟨i, rfl⟩
theorem pieces_stop {g : Tx → Rs Nd} {l : Tx} {n : Nat} (h : ends l = true) : Or4 (piecesE g (n + 1) l) [] 0 := by
  rw [piecesE, if_pos h]; exact Or.inl rfl
theorem branches_one {g : Tx → Rs Nd} {l : Tx} {x : Nd} {m n : Nat} (h : Or4 (branchE g l) x m) (hc : (l.drop m).getD 0 0 ≠ 124) : Or4 (branchesE g (n + 1) l) [x] m := by
  rw [branchesE]
  rcases h with e | ⟨i, e⟩
  · rw [e]; simp only []; rw [if_neg hc]; exact Or.inl rfl
  · rw [e]; exact Or.inr ⟨i, rfl⟩
theorem branches_cons {g : Tx → Rs Nd} {l : Tx} {x : Nd} {m n : Nat} {xs : List Nd} {j : Nat} (h : Or4 (branchE g l) x m) (hc : (l.drop m).getD 0 0 = 124) (hr : Or4 (branchesE g n (l.drop (m + 1))) xs j) : Or4 (branchesE g (n + 1) l) (x :: xs) (m + 1 + j) := by
  rw [branchesE]
  rcases h with e | ⟨i, e⟩
  · rw [e]; simp only []; rw [if_pos hc]; exact (hr.map _).far _
  · rw [e]; exact Or.inr ⟨i, rfl⟩
theorem drop_grp (a t : Tx) : (40 :: (a ++ 41 :: t) : Tx).drop (a.length + 2) = t := by
  rw [show a.length + 2 = 1 + a.length + 1 by omega, ← List.drop_drop, ← List.drop_drop]; simp
/-- one group that is a branch of its own -/
theorem branch_read {a : Tx} {x : Nd} (h : Whole a x) (d : Nat) {t : Tx} (ht : calm t) (he : ends t = true) : Or4 (branchE (grpE (d + 1)) (40 :: (a ++ 41 :: t))) x (a.length + 2) := by
  unfold branchE
  have hl : (40 :: (a ++ 41 :: t) : Tx).length = (a ++ 41 :: t).length + 1 := rfl
  rw [hl]
  have h2 : Or4 (piecesE (grpE (d + 1)) ((a ++ 41 :: t).length + 1) ((40 :: (a ++ 41 :: t) : Tx).drop (a.length + 2))) [] 0 := by
    rw [drop_grp]; exact pieces_stop he
  exact (pieces_cons (piece_read h d ht) rfl h2).map catOf
theorem top_of_expr {l : Tx} {z : Nd} (h : Or4 (exprE (grpE 30) l) z l.length) (hl : l.length ≤ 1000) : (∃ m, topE l = .ok z m) ∨ ∃ k, topE l = .er k 4 := by
  unfold topE
  rw [if_neg (by omega)]
  rcases h with e | ⟨i, e⟩
  · rw [e]
    simp only []
    rw [if_neg (by omega)]
    cases hr : rightN z with
    | true => exact Or.inl ⟨_, rfl⟩
    | false => exact Or.inr ⟨_, rfl⟩
  · rw [e]; exact Or.inr ⟨i, rfl⟩
theorem whole_of_top {a : Tx} {x : Nd} {m : Nat} (h : topE a = .ok x m) : Whole a x := by
  unfold topE at h
  split at h
  · cases h
  · cases hx : exprE (grpE 30) a with
    | er i c => rw [hx] at h; cases h
    | ok y k =>
      rw [hx] at h
      simp only [] at h
      split at h
      · cases h
      · split at h
        · have := exprE_le (grpE_tame 30) a
          rw [hx] at this
          have hk : k ≤ a.length := this
          injection h with h1 h2
          unfold Whole
          rw [hx, h1, show k = a.length by omega]
        · cases h
theorem top_group {a : Tx} {x : Nd} (h : Whole a x) (hl : a.length ≤ 100) : (∃ m, topE (40 :: (a ++ [41])) = .ok x m) ∨ ∃ k, topE (40 :: (a ++ [41])) = .er k 4 := by
  refine top_of_expr ?_ (by simp; omega)
  have hb := branch_read h 29 (t := []) ⟨by decide, by decide, by decide, by decide⟩ rfl
  have := (branches_one (n := (40 :: (a ++ [41]) : Tx).length) hb (by rw [drop_grp]; decide)).map (together 4)
  rw [show (40 :: (a ++ [41]) : Tx).length = a.length + 2 by simp]
  unfold exprE
  rw [show (40 :: (a ++ [41]) : Tx).length = a.length + 2 by simp]
  rw [show (40 :: (a ++ [41]) : Tx).length = a.length + 2 by simp] at this
  exact this
theorem top_both {a b : Tx} {x y : Nd} (ha : Whole a x) (hb : Whole b y) (hl : a.length ≤ 100) (hm : b.length ≤ 100) : (∃ m, topE (40 :: (a ++ 41 :: 40 :: (b ++ [41]))) = .ok (.mk 3 none_ [x, y] 0 0) m) ∨ ∃ k, topE (40 :: (a ++ 41 :: 40 :: (b ++ [41]))) = .er k 4 := by
  have hlen : (40 :: (a ++ 41 :: 40 :: (b ++ [41])) : Tx).length = a.length + 2 + (b.length + 2) := by simp; omega
  refine top_of_expr ?_ (by rw [hlen]; omega)
  have h1 := piece_read ha 29 (t := 40 :: (b ++ [41])) (calm_cons _ (by decide))
  have h2 := piece_read hb 29 (t := []) ⟨by decide, by decide, by decide, by decide⟩
  have h3 : Or4 (piecesE (grpE 30) (a.length + 2 + (b.length + 1) + 1) (40 :: (b ++ [41]))) [y] (b.length + 2) := by
    have := pieces_cons (n := a.length + 2 + b.length + 1) h2 rfl (xs := []) (j := 0) (by rw [drop_grp]; exact pieces_stop rfl)
    exact this
  have h4 := pieces_cons (n := a.length + 2 + (b.length + 1) + 1) h1 rfl (xs := [y]) (j := b.length + 2) (by rw [drop_grp]; exact h3)
  have h5 : Or4 (branchE (grpE 30) (40 :: (a ++ 41 :: 40 :: (b ++ [41])))) (.mk 3 none_ [x, y] 0 0) (a.length + 2 + (b.length + 2)) := by
    unfold branchE
    rw [hlen]
    exact h4.map catOf
  have h6 := (branches_one (n := a.length + 2 + (b.length + 2)) h5 (by rw [← hlen, List.drop_length]; decide)).map (together 4)
  rw [hlen]
  unfold exprE
  rw [hlen]
  exact h6
theorem top_either {a b : Tx} {x y : Nd} (ha : Whole a x) (hb : Whole b y) (hl : a.length ≤ 100) (hm : b.length ≤ 100) : (∃ m, topE (40 :: 40 :: (a ++ 41 :: 124 :: 40 :: (b ++ [41, 41]))) = .ok (.mk 4 none_ [x, y] 0 0) m) ∨ ∃ k, topE (40 :: 40 :: (a ++ 41 :: 124 :: 40 :: (b ++ [41, 41]))) = .er k 4 := by
  have hlen : (40 :: 40 :: (a ++ 41 :: 124 :: 40 :: (b ++ [41, 41])) : Tx).length = a.length + b.length + 5 + 2 := by simp; omega
  refine top_of_expr ?_ (by rw [hlen]; omega)
  have h1 := branch_read ha 28 (t := 124 :: 40 :: (b ++ [41, 41])) (calm_cons _ (by decide)) rfl
  have h2 := branch_read hb 28 (t := [41]) ⟨by decide, by decide, by decide, by decide⟩ rfl
  have hil : (40 :: (a ++ 41 :: 124 :: 40 :: (b ++ [41, 41])) : Tx).length = a.length + b.length + 6 := by simp; omega
  have h3 : Or4 (branchesE (grpE 29) (a.length + b.length + 5 + 1) (40 :: (b ++ [41, 41]))) [y] (b.length + 2) := branches_one h2 (by rw [drop_grp]; decide)
  have h4 : Or4 (branchesE (grpE 29) (a.length + b.length + 6 + 1) (40 :: (a ++ 41 :: 124 :: 40 :: (b ++ [41, 41])))) [x, y] (a.length + 2 + 1 + (b.length + 2)) :=
    branches_cons h1 (by rw [drop_grp]; rfl) (by rw [show a.length + 2 + 1 = (a.length + 2) + 1 from rfl, ← List.drop_drop, drop_grp]; exact h3)
  have h5 : Or4 (exprE (grpE 29) (40 :: (a ++ 41 :: 124 :: 40 :: (b ++ [41, 41])))) (.mk 4 none_ [x, y] 0 0) (a.length + b.length + 5) := by
    unfold exprE
    rw [hil, show a.length + b.length + 5 = a.length + 2 + 1 + (b.length + 2) by omega]
    exact h4.map (together 4)
  have h6 : Or4 (grpE 30 (40 :: 40 :: (a ++ 41 :: 124 :: 40 :: (b ++ [41, 41])))) (.mk 4 none_ [x, y] 0 0) (a.length + b.length + 5 + 2) := by
    rw [grpE, show (40 :: 40 :: (a ++ 41 :: 124 :: 40 :: (b ++ [41, 41])) : Tx).drop 1 = 40 :: (a ++ 41 :: 124 :: 40 :: (b ++ [41, 41])) from rfl]
    rcases h5 with e | ⟨i, e⟩
    · rw [e]
      simp only []
      rw [show (40 :: 40 :: (a ++ 41 :: 124 :: 40 :: (b ++ [41, 41])) : Tx).drop (1 + (a.length + b.length + 5)) = [41] by
        rw [show 1 + (a.length + b.length + 5) = (a.length + 2 + (b.length + 2 + 1)) + 1 by omega, List.drop_succ_cons, ← List.drop_drop, drop_grp, List.drop_succ_cons, drop_grp], if_pos (head_cons 41 [])]
      exact Or.inl rfl
    · rw [e]; exact Or.inr ⟨_, rfl⟩
  have h7 : Or4 (pieceE (grpE 30) (40 :: 40 :: (a ++ 41 :: 124 :: 40 :: (b ++ [41, 41])))) (.mk 4 none_ [x, y] 0 0) (a.length + b.length + 5 + 2) := by
    have hat : atomE (grpE 30) (40 :: 40 :: (a ++ 41 :: 124 :: 40 :: (b ++ [41, 41]))) = grpE 30 (40 :: 40 :: (a ++ 41 :: 124 :: 40 :: (b ++ [41, 41]))) := by
      unfold atomE
      simp only []
      rw [if_pos (head_cons 40 _)]
    unfold pieceE
    rw [hat]
    rcases h6 with e | ⟨i, e⟩
    · rw [e]
      simp only []
      rw [← hlen, List.drop_length, post_calm ⟨by decide, by decide, by decide, by decide⟩]
      exact Or.inl rfl
    · rw [e]; exact Or.inr ⟨_, rfl⟩
  have h8 : Or4 (branchE (grpE 30) (40 :: 40 :: (a ++ 41 :: 124 :: 40 :: (b ++ [41, 41])))) (.mk 4 none_ [x, y] 0 0) (a.length + b.length + 5 + 2) := by
    unfold branchE
    rw [hlen]
    have := (pieces_cons (n := a.length + b.length + 5 + 2) h7 rfl (xs := []) (j := 0) (by rw [← hlen, List.drop_length]; exact pieces_stop rfl)).map catOf
    exact this
  have h9 := (branches_one (n := a.length + b.length + 5 + 2) h8 (by rw [← hlen, List.drop_length]; decide)).map (together 4)
  rw [hlen]
  unfold exprE
  rw [hlen]
  exact h9

end Go.Proofs.Ytjeloflfhofdlaa.Gl
