
/-
  How the program's table stands while it goes to a rest of the other row, and back: its stops, what was turned since the last one; no conditions but those that each states.
-/
import Derived.Test.YtdjdiaadflggfaaBClone
namespace Go.Proofs.Ytdjdiaadflggfaa
open Go.RowKit Go.Proofs.Ytdjdiaadflggfaa.Ln Go.Proofs.Ytdjdiaadflggfaa.Ol

/-- what is fixed: where the table lies, its numbers, the sorts and their marks, the bits at each rest -/
structure Cx where
  B : Nat
  T : Nat
  ah : Int
  wd : Int
  mo : Int
  v0 : Value
  a1 : Option Addr
  c1 : Nat
  K : Nat
  m : Nat
  Nb : Nat
  srt : Nat → Nat
  vm : Nat → Value
  wsf : Nat → List Nat
  gf : Nat → Bs
  D : Nat → Bs
  crf : Nat → Bs
/-- the marks of one line of the other row, as far as they may be of use -/
def Cx.gb (c : Cx) (at_ : Nat) : Bs := fun p => c.gf (c.srt at_) p && decide (loW (c.m - 1 - at_) c.ah c.wd ≤ (p / 64 : Nat) ∧ ((p / 64 : Nat) : Int) < hiW (c.m - 1 - at_) c.ah c.wd)
structure Good (c : Cx) : Prop where
  m : c.m ≤ 1048576
  nb : c.Nb ≤ 4194304
  ah : -1073741824 ≤ c.ah ∧ c.ah ≤ 1073741824
  wd : 0 ≤ c.wd ∧ c.wd ≤ 1099511627776
  mo : 0 ≤ c.mo ∧ c.mo ≤ 16777216
  srt : ∀ j, j < c.m → c.srt j < c.K
  rp : ∀ j, j < c.m → Rp (c.D (j + 1)) (c.gb j) (c.D j) (c.crf j)
  full : ∀ p, c.D c.m p = true
  up : ∀ s, s < c.K → (c.wsf s).Pairwise (· < ·) ∧ (∀ x ∈ c.wsf s, x < c.Nb) ∧ ∀ p, c.gf s p = true → p / 64 ∈ c.wsf s
/-- the sorts and the marks lie in memory -/
structure Env (c : Cx) (W : World) : Prop where
  top : W.ownsRow c.B 63 1 c.v0 c.K ((List.range c.K).map c.vm)
  srt : W.ownsRow c.B 3 1 (.slice c.a1 c.m c.c1) c.m ((List.range c.m).map fun j => Z (c.srt j))
  mks : ∀ s, s < c.K → MkAt W (c.vm s) (c.wsf s) (c.gf s)
theorem Env.kpt {c : Cx} {W W' : World} (h : Env c W) {c0 c1 c2 c3 c4 c5 c6 c7 c8 : Value} (hc : TbC W c.T c0 c1 c2 c3 c4 c5 c6 c7 c8) (hk : KpT c.B c.T W W') : Env c W' :=
  ⟨hk.row h.top (by decide) (own_notT hc h.top (by decide)), hk.row h.srt (by decide) (own_notT hc h.srt (by decide)), fun s hs => (h.mks s hs).kpt hc hk⟩
theorem Env.later {c : Cx} {W W' : World} (h : Env c W) (hb : Below W.heap.size W W') : Env c W' :=
  ⟨owns_later h.top hb, owns_later h.srt hb, fun s hs => (h.mks s hs).later hb⟩
/-- stops, the last one at a line s -/
structure StOk (c : Cx) (S : List Sp) (s : Nat) : Prop where
  each : ∀ (i : Nat) t, S[i]? = some t → i + t.1 ≤ c.m ∧ t.2.2.1 = c.D t.1 ∧ t.2.2.2 ≤ c.Nb
  down : ∀ (i : Nat) t u, S[i]? = some t → S[i + 1]? = some u → u.1 < t.1
  first : ∃ t, S[0]? = some t ∧ t.1 = c.m
  last : ∃ t, S[S.length - 1]? = some t ∧ t.1 = s
theorem StOk.pos {c : Cx} {S : List Sp} {s : Nat} (h : StOk c S s) : 0 < S.length := by
  obtain ⟨t, h1, _⟩ := h.first
  exact (List.getElem?_eq_some_iff.1 h1).1
theorem StOk.len {c : Cx} {S : List Sp} {s : Nat} (h : StOk c S s) : S.length + s ≤ c.m + 1 := by
  obtain ⟨t, h1, h2⟩ := h.last
  have := (h.each _ t h1).1
  have := h.pos
  omega
theorem StOk.more {c : Cx} {S : List Sp} {s : Nat} (h : StOk c S s) {t : Sp} (ht : t.1 < s) (h1 : t.2.2.1 = c.D t.1) (h2 : t.2.2.2 ≤ c.Nb) : StOk c (S ++ [t]) t.1 := by
  have hp := h.pos
  have hl := h.len
  have split : ∀ (i : Nat) x, (S ++ [t])[i]? = some x → S[i]? = some x ∧ i < S.length ∨ i = S.length ∧ x = t := fun i x hx => by
    by_cases hi : i < S.length
    · rw [List.getElem?_append_left hi] at hx; exact Or.inl ⟨hx, hi⟩
    · rw [List.getElem?_append_right (by omega)] at hx
      obtain ⟨hlt, e⟩ := List.getElem?_eq_some_iff.1 hx
      simp at hlt
      have : i = S.length := by omega
      subst this
      simp at e
      exact Or.inr ⟨rfl, e.symm⟩
  refine ⟨fun i x hx => ?_, fun i x y hx hy => ?_, ?_, ⟨t, ?_, rfl⟩⟩
  · rcases split i x hx with ⟨hx, _⟩ | ⟨rfl, rfl⟩
    · exact h.each i x hx
    · exact ⟨by omega, h1, h2⟩
  · rcases split i x hx with ⟨hx2, hi⟩ | ⟨rfl, rfl⟩
    · rcases split (i + 1) y hy with ⟨hy2, _⟩ | ⟨hi2, rfl⟩
      · exact h.down i x y hx2 hy2
      · obtain ⟨z, h3, h4⟩ := h.last
        rw [show S.length - 1 = i by omega, hx2] at h3
        cases h3
        omega
    · rcases split (S.length + 1) y hy with ⟨_, hi⟩ | ⟨hi, _⟩ <;> omega
  · obtain ⟨z, h3, h4⟩ := h.first
    exact ⟨z, by rw [List.getElem?_append_left hp]; exact h3, h4⟩
  · rw [List.length_append, List.length_singleton, Nat.add_sub_cancel, List.getElem?_append_right (Nat.le_refl _)]; simp
/-- the last stop is taken away -/
theorem StOk.less {c : Cx} {S : List Sp} {s : Nat} (h : StOk c S s) (hs : s < c.m) : 2 ≤ S.length ∧ ∃ t, S[S.length - 2]? = some t ∧ s < t.1 ∧ t.1 ≤ c.m ∧ StOk c (S.take (S.length - 1)) t.1 := by
  have hp := h.pos
  obtain ⟨f, f1, f2⟩ := h.first
  obtain ⟨l, l1, l2⟩ := h.last
  have h2 : 2 ≤ S.length := Decidable.byContradiction fun hh => by
    rw [show S.length - 1 = 0 by omega, f1] at l1
    cases l1
    omega
  obtain ⟨t, ht⟩ : ∃ t, S[S.length - 2]? = some t := ⟨S[S.length - 2], List.getElem?_eq_getElem _⟩
  have hd := h.down (S.length - 2) t l ht (by rw [show S.length - 2 + 1 = S.length - 1 by omega]; exact l1)
  have tk : ∀ (i : Nat) x, (S.take (S.length - 1))[i]? = some x → S[i]? = some x := fun i x hx => by
    rw [List.getElem?_take] at hx
    split at hx
    · exact hx
    · cases hx
  refine ⟨h2, t, ht, by omega, by have := (h.each _ t ht).1; omega, fun i x hx => h.each i x (tk i x hx), fun i x y hx hy => h.down i x y (tk i x hx) (tk _ y hy), ⟨f, by rw [List.getElem?_take, if_pos (by omega)]; exact f1, f2⟩, ⟨t, ?_, rfl⟩⟩
  rw [List.length_take, Nat.min_eq_left (by omega), List.getElem?_take, if_pos (by omega), show S.length - 1 - 1 = S.length - 2 by omega]
  exact ht
/-- what was turned since the stop at s -/
inductive Lg (D : Nat → Bs) (s : Nat) : Nat → List Tn → Prop
  | base : Lg D s s []
  | step {at_ : Nat} {L X : List Tn} : Lg D s (at_ + 1) L → (∀ e ∈ X, e.1 = at_) → undo X (D at_) = D (at_ + 1) → Lg D s at_ (L ++ X)
theorem Lg.le {D : Nat → Bs} {s at_ : Nat} {L : List Tn} (h : Lg D s at_ L) : at_ ≤ s ∧ ∀ e ∈ L, at_ ≤ e.1 := by
  induction h with
  | base => exact ⟨Nat.le_refl _, by simp⟩
  | step _ hx _ ih =>
    refine ⟨by omega, fun e he => ?_⟩
    rcases List.mem_append.1 he with he | he
    · have := ih.2 e he; omega
    · have := hx e he; omega
theorem Lg.at_s {D : Nat → Bs} {s : Nat} {L : List Tn} (h : Lg D s s L) : L = [] := by
  cases h with
  | base => rfl
  | step h _ _ => have := h.le.1; omega
theorem Lg.inv {D : Nat → Bs} {s at_ : Nat} {L : List Tn} (h : Lg D s at_ L) (hs : at_ < s) : ∃ L' X, L = L' ++ X ∧ Lg D s (at_ + 1) L' ∧ (∀ e ∈ X, e.1 = at_) ∧ (∀ e ∈ L', e.1 ≠ at_) ∧ undo X (D at_) = D (at_ + 1) := by
  cases h with
  | base => omega
  | step h1 h2 h3 => exact ⟨_, _, rfl, h1, h2, fun e he => by have := h1.le.2 e he; omega, h3⟩
/-- the table at a rest of the other row -/
structure St (c : Cx) (bd : Int) (at_ : Nat) (W : World) : Prop where
  env : Env c W
  le : at_ ≤ c.m
  tb : ∃ vI vT vS N L S s, Tb c.B c.T c.ah c.wd c.mo c.v0 (.slice c.a1 c.m c.c1) at_ vI vT vS (c.D at_) N L S W ∧ N ≤ c.Nb ∧ (L.length : Int) ≤ bd ∧ (∀ e ∈ L, e.2.1 < N) ∧ StOk c S s ∧ Lg c.D s at_ L
/-- and the last stop is behind it -/
structure Sq (c : Cx) (bd : Int) (at_ : Nat) (W : World) : Prop where
  env : Env c W
  le : at_ < c.m
  tb : ∃ vI vT vS N L S s, Tb c.B c.T c.ah c.wd c.mo c.v0 (.slice c.a1 c.m c.c1) at_ vI vT vS (c.D at_) N L S W ∧ N ≤ c.Nb ∧ (L.length : Int) ≤ bd ∧ (∀ e ∈ L, e.2.1 < N) ∧ StOk c S s ∧ Lg c.D s at_ L ∧ at_ < s
theorem Sq.st {c : Cx} {bd : Int} {at_ : Nat} {W : World} (h : Sq c bd at_ W) : St c bd at_ W := by
  obtain ⟨vI, vT, vS, N, L, S, s, h1, h2, h3, h4, h5, h6, _⟩ := h.tb
  exact ⟨h.env, Nat.le_of_lt h.le, vI, vT, vS, N, L, S, s, h1, h2, h3, h4, h5, h6⟩
theorem Sq.later {c : Cx} {bd : Int} {at_ : Nat} {W W' : World} (h : Sq c bd at_ W) (hb : Below W.heap.size W W') : Sq c bd at_ W' := by
  obtain ⟨vI, vT, vS, N, L, S, s, h1, h2⟩ := h.tb
  exact ⟨h.env.later hb, h.le, vI, vT, vS, N, L, S, s, h1.later hb, h2⟩
theorem St.lt {c : Cx} {bd : Int} {at_ : Nat} {W : World} (h : St c bd at_ W) : c.T < W.heap.size ∧ c.B ≤ c.T := by
  obtain ⟨vI, vT, vS, N, L, S, s, hb, _⟩ := h.tb
  exact ⟨hb.lt, hb.lo⟩
theorem St.later {c : Cx} {bd : Int} {at_ : Nat} {W W' : World} (h : St c bd at_ W) (hb : Below W.heap.size W W') : St c bd at_ W' := by
  obtain ⟨vI, vT, vS, N, L, S, s, h1, h2⟩ := h.tb
  exact ⟨h.env.later hb, h.le, vI, vT, vS, N, L, S, s, h1.later hb, h2⟩

end Go.Proofs.Ytdjdiaadflggfaa
