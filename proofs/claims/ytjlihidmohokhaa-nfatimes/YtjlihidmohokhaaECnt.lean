/-
  How many parts a node has that was read from so many signs; no conditions.
-/
import Derived.Test.YtjlihidmohokhaaEPlain
namespace Go.Proofs.Ytjlihidmohokhaa.Gl

theorem Rs.far_ok {α : Type} {k : Nat} {r : Rs α} {x : α} {m : Nat} (h : r.far k = .ok x m) : ∃ j, r = .ok x j ∧ m = k + j := by
  cases r with
  | ok y j => simp [Rs.far] at h; exact ⟨j, by rw [h.1], h.2.symm⟩
  | er a c => cases h
theorem Rs.map_ok {α β : Type} {f : α → β} {r : Rs α} {x : β} {m : Nat} (h : r.map f = .ok x m) : ∃ y, r = .ok y m ∧ x = f y := by
  cases r with
  | ok y j => simp [Rs.map] at h; exact ⟨y, by rw [h.2], h.1.symm⟩
  | er a c => cases h
theorem cnt_leaf (k : Int) (f : Bs) (lo hi : Int) : cntN (.mk k f [] lo hi) = 1 := by rw [cntN, cnts]
theorem cnt_times (d : Nd) (lo hi : Int) : cntN (timesN d lo hi) = cntN d + 1 := by unfold timesN; rw [cntN, cnts, cnts]; omega
def Few (g : Tx → Rs Nd) : Prop := ∀ l x m, g l = .ok x m → cntN x ≤ 2 * m
theorem atomE_few {g : Tx → Rs Nd} (hg : Few g) : Few (atomE g) := by
  intro l x m h
  unfold atomE at h
  simp only [] at h
  split at h
  · exact hg l x m h
  split at h
  · cases hs : setE (l.drop 1) with
    | none => rw [hs] at h; cases h
    | some r => rw [hs] at h; cases h; unfold setN; rw [cnt_leaf]; omega
  split at h
  · cases h
  split at h
  · cases h; unfold plainN; rw [cnt_leaf]; omega
  split at h
  · cases h; unfold plainN; rw [cnt_leaf]; omega
  split at h
  · cases h; unfold setN; rw [cnt_leaf]; omega
  split at h
  · split at h
    · cases h
    · cases h; unfold setN; rw [cnt_leaf]; omega
  · cases h; unfold setN; rw [cnt_leaf]; omega
theorem postE_few : ∀ n d l x m, postE n d l = .ok x m → cntN x ≤ cntN d + m := by
  intro n
  induction n with
  | zero => intro d l x m h; cases h; omega
  | succ n ih =>
    intro d l x m h
    unfold postE at h
    split at h
    · obtain ⟨j, h1, h2⟩ := Rs.far_ok h; have := ih _ _ _ _ h1; rw [cnt_times] at this; omega
    split at h
    · obtain ⟨j, h1, h2⟩ := Rs.far_ok h; have := ih _ _ _ _ h1; rw [cnt_times] at this; omega
    split at h
    · obtain ⟨j, h1, h2⟩ := Rs.far_ok h; have := ih _ _ _ _ h1; rw [cnt_times] at this; omega
    split at h
    · cases ht : timesR (l.drop 1) with
      | none => rw [ht] at h; cases h
      | some r =>
        rw [ht] at h
        obtain ⟨j, h1, h2⟩ := Rs.far_ok h
        have := ih _ _ _ _ h1; rw [cnt_times] at this; omega
    · cases h; omega
theorem pieceE_few {g : Tx → Rs Nd} (hg : Few g) : Few (pieceE g) := by
  intro l x m h
  unfold pieceE at h
  cases ha : atomE g l with
  | er a c => rw [ha] at h; cases h
  | ok d a =>
    rw [ha] at h
    obtain ⟨j, h1, h2⟩ := Rs.far_ok h
    have := atomE_few hg l d a ha
    have := postE_few _ _ _ _ _ h1
    omega
theorem piecesE_few {g : Tx → Rs Nd} (hg : Few g) : ∀ n l xs m, piecesE g n l = .ok xs m → cnts xs ≤ 2 * m := by
  intro n
  induction n with
  | zero => intro l xs m h; cases h; simp [cnts]
  | succ n ih =>
    intro l xs m h
    unfold piecesE at h
    split at h
    · cases h; simp [cnts]
    · cases hp : pieceE g l with
      | er a c => rw [hp] at h; cases h
      | ok d a =>
        rw [hp] at h
        obtain ⟨j, h1, h2⟩ := Rs.far_ok h
        obtain ⟨ys, h3, h4⟩ := Rs.map_ok h1
        have := ih _ _ _ h3
        have := pieceE_few hg l d a hp
        rw [h4, cnts]; omega
theorem together_cnt (k : Int) (l : List Nd) : cntN (together k l) ≤ 1 + cnts l := by
  unfold together
  split
  · rw [cnts, cnts]; omega
  · rw [cntN]; omega
theorem together_two (k : Int) {l : List Nd} (h : l.length ≠ 1) : cntN (together k l) = 1 + cnts l := by
  unfold together
  split
  · exact absurd rfl h
  · rw [cntN]
theorem together_one (k : Int) (d : Nd) : together k [d] = d := rfl
theorem branchE_few {g : Tx → Rs Nd} (hg : Few g) (l : Tx) (x : Nd) (m : Nat) (h : branchE g l = .ok x m) : cntN x ≤ 2 * m + 1 := by
  unfold branchE at h
  obtain ⟨ys, h1, h2⟩ := Rs.map_ok h
  have := piecesE_few hg _ _ _ _ h1
  rw [h2]
  unfold catOf
  split
  · unfold plainN; rw [cnt_leaf]; omega
  · have := together_cnt 3 ys; omega
theorem branchesE_few {g : Tx → Rs Nd} (hg : Few g) : ∀ n l xs m, branchesE g n l = .ok xs m → cnts xs + xs.length ≤ 2 * m + 2 := by
  intro n
  induction n with
  | zero => intro l xs m h; cases h; simp [cnts]
  | succ n ih =>
    intro l xs m h
    unfold branchesE at h
    cases hb : branchE g l with
    | er a c => rw [hb] at h; cases h
    | ok d a =>
      rw [hb] at h
      have h5 := branchE_few hg l d a hb
      simp only [] at h
      split at h
      · obtain ⟨j, h1, h2⟩ := Rs.far_ok h
        obtain ⟨ys, h3, h4⟩ := Rs.map_ok h1
        have := ih _ _ _ h3
        rw [h4, cnts, List.length_cons]; omega
      · cases h; rw [cnts, cnts, List.length_cons, List.length_nil]; omega
theorem exprE_few {g : Tx → Rs Nd} (hg : Few g) (l : Tx) (x : Nd) (m : Nat) (h : exprE g l = .ok x m) : cntN x ≤ 2 * m + 1 := by
  unfold exprE at h
  obtain ⟨ys, h1, h2⟩ := Rs.map_ok h
  have h3 := branchesE_few hg _ _ _ _ h1
  rw [h2]
  by_cases h4 : ys.length = 1
  · obtain ⟨d, rfl⟩ := List.length_eq_one_iff.1 h4
    rw [together_one]
    rw [cnts, cnts] at h3
    simp at h3
    omega
  · rw [together_two 4 h4]
    by_cases h5 : ys.length = 0
    · obtain rfl := List.eq_nil_of_length_eq_zero h5
      rw [cnts]; omega
    · omega
theorem grpE_few (d : Nat) : Few (grpE d) := by
  induction d with
  | zero => intro l x m h; cases h
  | succ d ih =>
    intro l x m h
    unfold grpE at h
    cases he : exprE (grpE d) (l.drop 1) with
    | er a c => rw [he] at h; cases h
    | ok y a =>
      rw [he] at h
      have := exprE_few ih _ _ _ he
      simp only [] at h
      split at h
      · cases h; omega
      · cases h

end Go.Proofs.Ytjlihidmohokhaa.Gl
