
/-
  What the document's own LcsLen and LcsDiff answer at any two rows of lines; conditions: how many lines they have.
-/
import Derived.Test.YtmbalnjobcgpkaaAPlain
import Derived.Test.YtmbalnjobcgpkaaADoneOpen
import Derived.Deep.LoopGhost
import Derived.Deep.CutBlock
import Derived.Deep.OwnRows
import Derived.BigRegion
import Derived.Test.YtmbalnjobcgpkaaORow
namespace Go.Proofs.Ytmbalnjobcgpkaa.Ol
open Go.Proofs.Ytmbalnjobcgpkaa.Ln

def lcGo (f : List Tx → Nat) (x : Tx) : List Tx → Nat
  | [] => 0
  | y :: b => max (max (f (y :: b)) (lcGo f x b)) (if x = y then f b + 1 else 0)
/-- how long the longest common row is -/
def lc : List Tx → List Tx → Nat
  | [] => fun _ => 0
  | x :: a => lcGo (lc a) x
theorem lc_nil (b : List Tx) : lc [] b = 0 := rfl
theorem lc_nilr (a : List Tx) : lc a [] = 0 := by cases a <;> rfl
theorem lc_cons (x y : Tx) (a b : List Tx) : lc (x :: a) (y :: b) = max (max (lc a (y :: b)) (lc (x :: a) b)) (if x = y then lc a b + 1 else 0) := rfl
/-- no common row is longer -/
theorem lc_most (a : List Tx) : ∀ (b s : List Tx), s.Sublist a → s.Sublist b → s.length ≤ lc a b := by
  induction a with
  | nil => intro b s h _; rw [List.sublist_nil.1 h]; simp
  | cons x a ih =>
    intro b
    induction b with
    | nil => intro s _ h; rw [List.sublist_nil.1 h]; simp
    | cons y b ihb =>
      intro s h1 h2
      rw [lc_cons]
      cases h1 with
      | cons _ h1 => have := ih (y :: b) s h1 h2; omega
      | cons_cons _ h1 =>
        rename_i s'
        cases h2 with
        | cons _ h2 => have := ihb (x :: s') (h1.cons_cons x) h2; omega
        | cons_cons _ h2 => have := ih b s' h1 h2; rw [if_pos rfl]; simp; omega
/-- one common row is so long -/
theorem lc_some (a : List Tx) : ∀ b : List Tx, ∃ s : List Tx, s.Sublist a ∧ s.Sublist b ∧ s.length = lc a b := by
  induction a with
  | nil => intro b; exact ⟨[], List.Sublist.refl _, List.nil_sublist _, rfl⟩
  | cons x a ih =>
    intro b
    induction b with
    | nil => exact ⟨[], List.nil_sublist _, List.Sublist.refl _, rfl⟩
    | cons y b ihb =>
      rw [lc_cons]
      obtain ⟨s1, a1, b1, e1⟩ := ih (y :: b)
      obtain ⟨s2, a2, b2, e2⟩ := ihb
      obtain ⟨s3, a3, b3, e3⟩ := ih b
      by_cases h3 : max (lc a (y :: b)) (lc (x :: a) b) ≤ (if x = y then lc a b + 1 else 0)
      · by_cases hxy : x = y
        · subst hxy
          rw [if_pos rfl] at h3 ⊢
          exact ⟨x :: s3, a3.cons_cons x, b3.cons_cons x, by simp; omega⟩
        · rw [if_neg hxy] at h3 ⊢
          exact ⟨s1, a1.cons x, b1, by omega⟩
      · by_cases h4 : lc a (y :: b) ≤ lc (x :: a) b
        · exact ⟨s2, a2, b2.cons y, by omega⟩
        · exact ⟨s1, a1.cons x, b1, by omega⟩
theorem lc_of {a b : List Tx} {n : Nat} (h1 : ∃ s : List Tx, s.Sublist a ∧ s.Sublist b ∧ s.length = n) (h2 : ∀ s : List Tx, s.Sublist a → s.Sublist b → s.length ≤ n) : lc a b = n := by
  obtain ⟨s, ha, hb, rfl⟩ := h1
  obtain ⟨t, ta, tb, te⟩ := lc_some a b
  have := lc_most a b s ha hb
  have := h2 t ta tb
  omega
theorem lc_symm (a b : List Tx) : lc a b = lc b a := by
  obtain ⟨s, ha, hb, e⟩ := lc_some b a
  exact lc_of ⟨s, hb, ha, e⟩ (fun t h1 h2 => lc_most b a t h2 h1)
theorem lc_le (a b : List Tx) : lc a b ≤ a.length ∧ lc a b ≤ b.length := by
  obtain ⟨s, ha, hb, e⟩ := lc_some a b
  exact ⟨e ▸ ha.length_le, e ▸ hb.length_le⟩
theorem lc_sub {a s : List Tx} (h : s.Sublist a) : lc a s = s.length := lc_of ⟨s, h, List.Sublist.refl _, rfl⟩ (fun _ _ h2 => h2.length_le)
theorem lc_mono {a s : List Tx} (b : List Tx) (h : s.Sublist a) : lc s b ≤ lc a b := by
  obtain ⟨t, ha, hb, e⟩ := lc_some s b
  exact e ▸ lc_most a b t (ha.trans h) hb
theorem lc_self (a : List Tx) : lc a a = a.length := lc_sub (List.Sublist.refl _)
theorem lc_head (x : Tx) (a b : List Tx) : lc (x :: a) (x :: b) = lc a b + 1 := by
  refine lc_of ?_ ?_
  · obtain ⟨s, ha, hb, e⟩ := lc_some a b
    exact ⟨x :: s, ha.cons_cons x, hb.cons_cons x, by simp [e]⟩
  · intro s ha hb
    cases s with
    | nil => simp
    | cons z s =>
      have h1 : s.Sublist a := by simpa using ha.tail
      have h2 : s.Sublist b := by simpa using hb.tail
      have := lc_most a b s h1 h2
      simp; omega
theorem lc_front (c a b : List Tx) : lc (c ++ a) (c ++ b) = lc a b + c.length := by
  induction c with
  | nil => simp
  | cons x c ih => rw [List.cons_append, List.cons_append, lc_head, ih]; simp; omega
theorem lc_rev (a b : List Tx) : lc a.reverse b.reverse = lc a b := by
  obtain ⟨s, ha, hb, e⟩ := lc_some a b
  refine lc_of ⟨s.reverse, ha.reverse, hb.reverse, by simp [e]⟩ (fun t h1 h2 => ?_)
  have := lc_most a b t.reverse (by simpa using h1.reverse) (by simpa using h2.reverse)
  simpa using this
theorem lc_back (c a b : List Tx) : lc (a ++ c) (b ++ c) = lc a b + c.length := by
  rw [← lc_rev, List.reverse_append, List.reverse_append, lc_front, lc_rev, List.length_reverse]

def dfGo (f : List Tx → List Oq) (x : Tx) (a : List Tx) : List Tx → List Oq
  | [] => (3, 0, x) :: f []
  | y :: b => if x = y ∧ lc (x :: a) (y :: b) = lc a b + 1 then (2, 0, x) :: f b else if lc (x :: a) b ≤ lc a (y :: b) then (3, 0, x) :: f (y :: b) else (4, 0, y) :: dfGo f x a b
/-- the steps from one to the other -/
def df : List Tx → List Tx → List Oq
  | [] => fun b => b.map fun y => (4, 0, y)
  | x :: a => dfGo (df a) x a
theorem df_nil (b : List Tx) : df [] b = b.map fun y => (4, 0, y) := rfl
theorem df_nilr (x : Tx) (a : List Tx) : df (x :: a) [] = (3, 0, x) :: df a [] := rfl
theorem df_cons (x y : Tx) (a b : List Tx) : df (x :: a) (y :: b) = if x = y ∧ lc (x :: a) (y :: b) = lc a b + 1 then (2, 0, x) :: df a b else if lc (x :: a) b ≤ lc a (y :: b) then (3, 0, x) :: df a (y :: b) else (4, 0, y) :: df (x :: a) b := rfl
/-- induction on both rows, as the steps are told -/
theorem df_ind {P : List Tx → List Tx → Prop} (h0 : ∀ b, P [] b) (h1 : ∀ x a, P a [] → P (x :: a) []) (h2 : ∀ x y a b, P a (y :: b) → P (x :: a) b → P a b → P (x :: a) (y :: b)) : ∀ a b, P a b := by
  intro a
  induction a with
  | nil => exact h0
  | cons x a ih =>
    intro b
    induction b with
    | nil => exact h1 x a (ih [])
    | cons y b ihb => exact h2 x y a b (ih _) ihb (ih _)
/-- the texts of one side: all but those of one kind -/
def sdt (but : Int) (l : List Oq) : List Tx := (l.filter fun x => x.1 != but).map (·.2.2)
theorem sdt_app (but : Int) (a b : List Oq) : sdt but (a ++ b) = sdt but a ++ sdt but b := by simp [sdt]
theorem sdt_cons (but : Int) (x : Oq) (l : List Oq) : sdt but (x :: l) = (if x.1 = but then [] else [x.2.2]) ++ sdt but l := by
  unfold sdt
  by_cases h : x.1 = but
  · have : (x.1 != but) = false := by simp [h]
    simp [h]
  · have : (x.1 != but) = true := by simpa using h
    simp [this, h]
def kept2 (l : List Oq) : Nat := (l.filter fun x => x.1 == 2).length
theorem kept2_cons (x : Oq) (l : List Oq) : kept2 (x :: l) = (if x.1 = 2 then 1 else 0) + kept2 l := by
  unfold kept2
  by_cases h : x.1 = 2
  · simp [h]; omega
  · have : (x.1 == 2) = false := by simpa using h
    simp [this, h]
theorem sdt_ins (b : List Tx) : sdt 4 (b.map fun y => ((4, 0, y) : Oq)) = [] ∧ sdt 3 (b.map fun y => ((4, 0, y) : Oq)) = b ∧ kept2 (b.map fun y => ((4, 0, y) : Oq)) = 0 := by
  induction b with
  | nil => exact ⟨rfl, rfl, rfl⟩
  | cons y b ih =>
    obtain ⟨h1, h2, h3⟩ := ih
    rw [List.map_cons, sdt_cons, sdt_cons, kept2_cons, h1, h2, h3]
    simp
/-- the steps lead from one to the other, with as many kept as is the longest common row -/
theorem df_leads (a b : List Tx) : sdt 4 (df a b) = a ∧ sdt 3 (df a b) = b ∧ kept2 (df a b) = lc a b := by
  refine df_ind (P := fun a b => sdt 4 (df a b) = a ∧ sdt 3 (df a b) = b ∧ kept2 (df a b) = lc a b) ?_ ?_ ?_ a b
  · intro b
    exact sdt_ins b
  · rintro x a ⟨h1, h2, h3⟩
    rw [df_nilr, sdt_cons, sdt_cons, kept2_cons, h1, h2, h3]
    simp [lc_nilr]
  · rintro x y a b ⟨i1, i2, i3⟩ ⟨j1, j2, j3⟩ ⟨k1, k2, k3⟩
    rw [df_cons]
    by_cases h : x = y ∧ lc (x :: a) (y :: b) = lc a b + 1
    · rw [if_pos h, sdt_cons, sdt_cons, kept2_cons, k1, k2, k3, h.2, ← h.1]
      exact ⟨rfl, rfl, by simp; omega⟩
    · have hm : lc (x :: a) (y :: b) = max (lc a (y :: b)) (lc (x :: a) b) := by
        by_cases hxy : x = y
        · have h2 : ¬ lc (x :: a) (y :: b) = lc a b + 1 := fun e => h ⟨hxy, e⟩
          rw [lc_cons, if_pos hxy] at h2 ⊢
          omega
        · rw [lc_cons, if_neg hxy]; omega
      rw [if_neg h, hm]
      by_cases h2 : lc (x :: a) b ≤ lc a (y :: b)
      · rw [if_pos h2, sdt_cons, sdt_cons, kept2_cons, i1, i2, i3]
        exact ⟨rfl, rfl, by simp; omega⟩
      · rw [if_neg h2, sdt_cons, sdt_cons, kept2_cons, j1, j2, j3]
        exact ⟨rfl, rfl, by simp; omega⟩
/-- each step is a line of one of the rows -/
theorem df_kinds (a b : List Tx) : ∀ x ∈ df a b, (x.1 = 2 ∧ x.2.2 ∈ a ∧ x.2.2 ∈ b ∨ x.1 = 3 ∧ x.2.2 ∈ a ∨ x.1 = 4 ∧ x.2.2 ∈ b) ∧ x.2.1 = 0 := by
  refine df_ind (P := fun a b => ∀ x ∈ df a b, (x.1 = 2 ∧ x.2.2 ∈ a ∧ x.2.2 ∈ b ∨ x.1 = 3 ∧ x.2.2 ∈ a ∨ x.1 = 4 ∧ x.2.2 ∈ b) ∧ x.2.1 = 0) ?_ ?_ ?_ a b
  · intro b x hx
    obtain ⟨y, hy, rfl⟩ := List.mem_map.1 hx
    exact ⟨Or.inr (Or.inr ⟨rfl, hy⟩), rfl⟩
  · intro z a ih x hx
    rw [df_nilr] at hx
    rcases List.mem_cons.1 hx with rfl | hx
    · exact ⟨Or.inr (Or.inl ⟨rfl, by simp⟩), rfl⟩
    · obtain ⟨h, h0⟩ := ih x hx
      refine ⟨?_, h0⟩
      rcases h with ⟨h1, h2, h3⟩ | ⟨h1, h2⟩ | ⟨h1, h2⟩
      · exact Or.inl ⟨h1, by simp [h2], h3⟩
      · exact Or.inr (Or.inl ⟨h1, by simp [h2]⟩)
      · exact Or.inr (Or.inr ⟨h1, h2⟩)
  · intro z y a b i j k x hx
    rw [df_cons] at hx
    by_cases h : z = y ∧ lc (z :: a) (y :: b) = lc a b + 1
    · rw [if_pos h] at hx
      rcases List.mem_cons.1 hx with rfl | hx
      · exact ⟨Or.inl ⟨rfl, by simp, by simp [h.1]⟩, rfl⟩
      · obtain ⟨h, h0⟩ := k x hx
        refine ⟨?_, h0⟩
        rcases h with ⟨h1, h2, h3⟩ | ⟨h1, h2⟩ | ⟨h1, h2⟩
        · exact Or.inl ⟨h1, by simp [h2], by simp [h3]⟩
        · exact Or.inr (Or.inl ⟨h1, by simp [h2]⟩)
        · exact Or.inr (Or.inr ⟨h1, by simp [h2]⟩)
    · rw [if_neg h] at hx
      by_cases h2 : lc (z :: a) b ≤ lc a (y :: b)
      · rw [if_pos h2] at hx
        rcases List.mem_cons.1 hx with rfl | hx
        · exact ⟨Or.inr (Or.inl ⟨rfl, by simp⟩), rfl⟩
        · obtain ⟨h, h0⟩ := i x hx
          refine ⟨?_, h0⟩
          rcases h with ⟨h1, h2, h3⟩ | ⟨h1, h2⟩ | ⟨h1, h2⟩
          · exact Or.inl ⟨h1, by simp [h2], h3⟩
          · exact Or.inr (Or.inl ⟨h1, by simp [h2]⟩)
          · exact Or.inr (Or.inr ⟨h1, h2⟩)
      · rw [if_neg h2] at hx
        rcases List.mem_cons.1 hx with rfl | hx
        · exact ⟨Or.inr (Or.inr ⟨rfl, by simp⟩), rfl⟩
        · obtain ⟨h, h0⟩ := j x hx
          refine ⟨?_, h0⟩
          rcases h with ⟨h1, h2, h3⟩ | ⟨h1, h2⟩ | ⟨h1, h2⟩
          · exact Or.inl ⟨h1, h2, by simp [h3]⟩
          · exact Or.inr (Or.inl ⟨h1, h2⟩)
          · exact Or.inr (Or.inr ⟨h1, by simp [h2]⟩)
theorem sdt_len (but : Int) (l : List Oq) : (sdt but l).length + (l.filter fun x => x.1 == but).length = l.length := by
  unfold sdt
  rw [List.length_map]
  induction l with
  | nil => rfl
  | cons x l ih =>
    by_cases h : x.1 = but
    · have e1 : (x.1 != but) = false := by simp [h]
      have e2 : (x.1 == but) = true := by simp [h]
      simp only [List.filter_cons, e1, e2, List.length_cons]; simp; omega
    · have e1 : (x.1 != but) = true := by simpa using h
      have e2 : (x.1 == but) = false := by simpa using h
      simp only [List.filter_cons, e1, e2, List.length_cons]; simp; omega
/-- how many steps, and how many changes -/
theorem df_len (a b : List Tx) : (df a b).length = a.length + b.length - lc a b ∧ chs (df a b) = a.length + b.length - 2 * lc a b := by
  refine df_ind (P := fun a b => (df a b).length = a.length + b.length - lc a b ∧ chs (df a b) = a.length + b.length - 2 * lc a b) ?_ ?_ ?_ a b
  · intro b
    rw [df_nil, lc_nil]
    refine ⟨by simp, ?_⟩
    induction b with
    | nil => rfl
    | cons y b ih => rw [List.map_cons, show (((4, 0, y) : Oq) :: b.map fun y => ((4, 0, y) : Oq)) = [(4, 0, y)] ++ b.map fun y => ((4, 0, y) : Oq) from rfl, chs_app, ih]; simp [chs, chg]; omega
  · rintro x a ⟨h1, h2⟩
    rw [df_nilr, show (((3, 0, x) : Oq) :: df a []) = [(3, 0, x)] ++ df a [] from rfl, List.length_append, chs_app, h1, h2, lc_nilr, lc_nilr]
    simp [chs, chg]; omega
  · rintro x y a b ⟨i1, i2⟩ ⟨j1, j2⟩ ⟨k1, k2⟩
    rw [df_cons]
    have b1 := lc_le a (y :: b)
    have b2 := lc_le (x :: a) b
    have b3 := lc_le a b
    simp only [List.length_cons] at b1 b2 b3 i1 i2 j1 j2 ⊢
    by_cases h : x = y ∧ lc (x :: a) (y :: b) = lc a b + 1
    · rw [if_pos h, show (((2, 0, x) : Oq) :: df a b) = [(2, 0, x)] ++ df a b from rfl, List.length_append, chs_app, k1, k2, h.2]
      simp [chs, chg]; omega
    · have hm : lc (x :: a) (y :: b) = max (lc a (y :: b)) (lc (x :: a) b) := by
        by_cases hxy : x = y
        · have h2 : ¬ lc (x :: a) (y :: b) = lc a b + 1 := fun e => h ⟨hxy, e⟩
          rw [lc_cons, if_pos hxy] at h2 ⊢
          omega
        · rw [lc_cons, if_neg hxy]; omega
      rw [if_neg h, hm]
      by_cases h2 : lc (x :: a) b ≤ lc a (y :: b)
      · rw [if_pos h2, show (((3, 0, x) : Oq) :: df a (y :: b)) = [(3, 0, x)] ++ df a (y :: b) from rfl, List.length_append, chs_app, i1, i2]
        simp [chs, chg]; omega
      · rw [if_neg h2, show (((4, 0, y) : Oq) :: df (x :: a) b) = [(4, 0, y)] ++ df (x :: a) b from rfl, List.length_append, chs_app, j1, j2]
        simp [chs, chg]; omega
/-- from a row to itself all is kept -/
theorem df_self (a : List Tx) : df a a = a.map fun x => (2, 0, x) := by
  induction a with
  | nil => rfl
  | cons x a ih => rw [df_cons, if_pos ⟨rfl, lc_head x a a⟩, ih]; rfl
theorem df_all (a : List Tx) : df a [] = a.map fun x => (3, 0, x) := by
  induction a with
  | nil => rfl
  | cons x a ih => rw [df_nilr, ih]; rfl
/-- without common lines all goes, and then all comes -/
theorem df_none (a b : List Tx) (h : lc a b = 0) : df a b = df a [] ++ df [] b := by
  induction a with
  | nil => rfl
  | cons x a ih =>
    have h0 : lc a b = 0 := by have := lc_mono b (List.sublist_cons_self x a); omega
    cases b with
    | nil => rw [df_nil]; simp
    | cons y b =>
      rw [df_cons, if_neg (by omega), if_pos (by have := lc_mono (a := y :: b) (x :: a) (List.sublist_cons_self y b); rw [lc_symm b, lc_symm (y :: b)] at this; omega), ih h0, df_nilr]
      rfl

end Go.Proofs.Ytmbalnjobcgpkaa.Ol

namespace Go.Proofs.Ytmbalnjobcgpkaa
open Go.RowKit Go.Deep Go.Proofs.Ytmbalnjobcgpkaa.Ln Go.Proofs.Ytmbalnjobcgpkaa.Ol

theorem Try.infoInt : (Try.prog.info? 3).map (fun i => (i.zero, i.size, i.bytes)) = some (some (.int .i64 0), 1, 8) := by kernel_rfl
theorem Try.infoInts : (Try.prog.info? 76).map (fun i => (i.zero, i.size, i.bytes)) = some (some (.slice none 0 0), 1, 24) := by kernel_rfl
/-- a table lies in memory: its rows, a block each -/
structure KT (w : World) (T n m : Nat) (F : Nat → Nat → Int) (W : World) : Prop where
  bel : Below w.heap.size w W
  top : W.rowIs T 76 (n + 1) (fun j => .slice (some ⟨T + 1 + j, 0, none⟩) (m + 1) (m + 1))
  row : ∀ j, j ≤ n → W.rowIs (T + 1 + j) 3 (m + 1) (fun c => .int .i64 (F j c))
theorem rowIs_later {W W' : World} {b : Nat} {t : TypeId} {n : Nat} {f : Nat → Value} (h : W.rowIs b t n f) (hb : Below W.heap.size W W') : W'.rowIs b t n f := h.of_block (hb.block b h.lt)
theorem KT.later {w : World} {T n m : Nat} {F : Nat → Nat → Int} {W W' : World} (h : KT w T n m F W) (hb : Below W.heap.size W W') : KT w T n m F W' :=
  ⟨h.bel.trans (hb.mono h.bel.size), rowIs_later h.top hb, fun j hj => rowIs_later (h.row j hj) hb⟩
theorem KT.drew {w : World} {T n m : Nat} {F : Nat → Nat → Int} {W : World} (h : KT w T n m F W) : KT w T n m F W.drew := h.later (Below.refl _ W).drew
theorem KT.congr {w : World} {T n m : Nat} {F G : Nat → Nat → Int} {W : World} (h : KT w T n m F W) (e : ∀ j c, j ≤ n → c ≤ m → F j c = G j c) : KT w T n m G W :=
  ⟨h.bel, h.top, fun j hj => (h.row j hj).congr fun c hc => by rw [e j c hj (by omega)]⟩
theorem KT.set {w : World} {T n m : Nat} {F : Nat → Nat → Int} {W : World} (h : KT w T n m F W) (hT : w.heap.size ≤ T) (i k : Nat) (z : Int) : KT w T n m (fun j c => if j = i ∧ c = k then z else F j c) (W.setCell ⟨T + 1 + i, k, none⟩ (.int .i64 z)) := by
  refine ⟨bel_set h.bel (by omega), h.top.setOther (by show T ≠ T + 1 + i; omega) _, fun j hj => ?_⟩
  by_cases e : j = i
  · subst e
    refine ((h.row j hj).set k (.int .i64 z)).congr fun c _ => ?_
    by_cases e2 : c = k
    · rw [if_pos e2, if_pos ⟨rfl, e2⟩]
    · rw [if_neg e2, if_neg (fun h => e2 h.2)]
  · refine ((h.row j hj).setOther (by show T + 1 + j ≠ T + 1 + i; omega) _).congr fun c _ => by rw [if_neg (fun h => e h.1)]
theorem KT.slot {w : World} {T n m : Nat} {F : Nat → Nat → Int} {W : World} (h : KT w T n m F W) (j : Nat) (hj : j ≤ n) : W.cell? ⟨T, j, none⟩ = some (.slice (some ⟨T + 1 + j, 0, none⟩) (m + 1) (m + 1)) := h.top.cell (by omega)
theorem KT.cell {w : World} {T n m : Nat} {F : Nat → Nat → Int} {W : World} (h : KT w T n m F W) (j c : Nat) (hj : j ≤ n) (hc : c ≤ m) : W.cell? ⟨T + 1 + j, c, none⟩ = some (.int .i64 (F j c)) := (h.row j hj).cell (by omega)
theorem KT.thaw {w : World} {T n m : Nat} {F : Nat → Nat → Int} {W : World} (h : KT w T n m F W) (j c : Nat) (hj : j ≤ n) : W.frozen? ⟨T + 1 + j, c, none⟩ = false := (h.row j hj).frozen c
/-- 'make([]T, n)', n a variable: a new block of n zeros -/
theorem wpList_make_at (w : World) {ops : Array Oper} {rest : List Oper} {o : Oper} {a : Act} {Q : Exit → Act → World → Prop}
    (hg : o.guard = none) (l c : Operand) (t : TypeId) (hop : o.op = Op.makeSlice t l c)
    (e : TypeId) (z : Value) (bytes : Nat) (ht : Try.prog.underlying t = some (.slice e)) (hinfo : (Try.prog.info? e).map (fun i => (i.zero, i.size, i.bytes)) = some (some z, 1, bytes)) (hz1 : z.cells = #[z])
    (L C : Int) (n : Nat) (hl : a.eval l = .int .i64 L) (hc : a.eval c = .int .i64 C) (hL : L = n) (hC : C = n) (hbytes : bytes * n ≤ 281474976710656) (h63 : n ≤ 9223372036854775807)
    (hK : ∀ w', w' = w.alloc (.cells (madeCells #[z] n) e) → wpList Try.prog ops Q rest (a.put o.dst (.slice (some ⟨w.heap.size, 0, none⟩) n n)) w') :
    wpList Try.prog ops Q (o :: rest) a w := by
  subst hL hC
  obtain ⟨i, hi, hz0, hs, hb⟩ := info_parts hinfo
  exact wpList_make_row w hg l c t hop e i z ht hi hz0 hs hz1 .i64 .i64 n hl hc (by rw [hb]; exact hbytes) h63 (hK _ rfl)
/-- the longest common row of what is left -/
def lr (a b : List Tx) (i k : Nat) : Int := lc (a.drop i) (b.drop k)
theorem lr_end (a b : List Tx) (i k : Nat) (h : a.length ≤ i ∨ b.length ≤ k) : lr a b i k = 0 := by
  unfold lr
  rcases h with h | h
  · rw [List.drop_of_length_le h]; rfl
  · rw [List.drop_of_length_le h, lc_nilr]; rfl
theorem lr_le (a b : List Tx) (i k : Nat) : 0 ≤ lr a b i k ∧ lr a b i k ≤ a.length := by
  unfold lr
  have := (lc_le (a.drop i) (b.drop k)).1
  rw [List.length_drop] at this
  omega
theorem lr_step {a b : List Tx} {i k : Nat} {x y : Tx} (hx : a[i]? = some x) (hy : b[k]? = some y) : lr a b i k = max (max (lr a b (i + 1) k) (lr a b i (k + 1))) (if x = y then lr a b (i + 1) (k + 1) + 1 else 0) := by
  obtain ⟨h1, e1⟩ := List.getElem?_eq_some_iff.1 hx
  obtain ⟨h2, e2⟩ := List.getElem?_eq_some_iff.1 hy
  unfold lr
  have ea : a.drop i = x :: a.drop (i + 1) := by rw [List.drop_eq_getElem_cons h1, e1]
  have eb : b.drop k = y :: b.drop (k + 1) := by rw [List.drop_eq_getElem_cons h2, e2]
  rw [ea, eb, lc_cons]
  split <;> omega
/-- what is reckoned so far: the rows from ni on, and of the row ahead the places from nk on -/
def sofarT (a b : List Tx) (ni nk j c : Nat) : Int := if ni ≤ j then lr a b j c else if j + 1 = ni ∧ nk ≤ c then lr a b j c else 0
theorem sofarT_start (a b : List Tx) (j c : Nat) (_hj : j ≤ a.length) (hc : c ≤ b.length) : sofarT a b a.length b.length j c = 0 := by
  unfold sofarT
  split
  · exact lr_end a b j c (Or.inl (by omega))
  · split
    · exact lr_end a b j c (Or.inr (by omega))
    · rfl
theorem sofarT_row (a b : List Tx) (ni j c : Nat) (hc : c ≤ b.length) : sofarT a b (ni + 1) 0 j c = sofarT a b ni b.length j c := by
  unfold sofarT
  by_cases h : ni + 1 ≤ j
  · rw [if_pos h, if_pos (by omega)]
  · rw [if_neg h]
    by_cases h2 : j = ni
    · rw [if_pos ⟨by omega, by omega⟩, if_pos (by omega)]
    · rw [if_neg (by omega), if_neg (by omega)]
      split
      · exact (lr_end a b j c (Or.inr (by omega))).symm
      · rfl
theorem sofarT_one (a b : List Tx) (i k j c : Nat) : (if j = i ∧ c = k then lr a b i k else sofarT a b (i + 1) (k + 1) j c) = sofarT a b (i + 1) k j c := by
  unfold sofarT
  by_cases h : j = i ∧ c = k
  · obtain ⟨rfl, rfl⟩ := h
    rw [if_pos ⟨rfl, rfl⟩, if_neg (by omega), if_pos ⟨rfl, by omega⟩]
  · rw [if_neg h]
    by_cases h1 : i + 1 ≤ j
    · rw [if_pos h1, if_pos h1]
    · rw [if_neg h1, if_neg h1]
      by_cases h2 : j + 1 = i + 1 ∧ k + 1 ≤ c
      · rw [if_pos h2, if_pos ⟨h2.1, by omega⟩]
      · rw [if_neg h2, if_neg (fun h3 => by
          have : j = i := by omega
          have : ¬ c = k := fun e => h ⟨this, e⟩
          omega)]
theorem sofarT_all (a b : List Tx) (k j c : Nat) : sofarT a b 0 k j c = lr a b j c := by unfold sofarT; rw [if_pos (Nat.zero_le _)]

/-- the frame, as far as it matters -/
structure FrT (a : Act) (s0 s1 s5 s7 s8 : Value) : Prop where
  size : a.tmps.size = 130
  e0 : a.tmps.getD 0 undef = s0
  e1 : a.tmps.getD 1 undef = s1
  e5 : a.tmps.getD 5 undef = s5
  e7 : a.tmps.getD 7 undef = s7
  e8 : a.tmps.getD 8 undef = s8
  marks : a.defers = []
theorem FrT_slots (tmps : Array Value) (h : tmps.size = 130) : tmps = #[tmps.getD 0 undef, tmps.getD 1 undef, tmps.getD 2 undef, tmps.getD 3 undef, tmps.getD 4 undef, tmps.getD 5 undef, tmps.getD 6 undef, tmps.getD 7 undef, tmps.getD 8 undef, tmps.getD 9 undef, tmps.getD 10 undef, tmps.getD 11 undef, tmps.getD 12 undef, tmps.getD 13 undef, tmps.getD 14 undef, tmps.getD 15 undef, tmps.getD 16 undef, tmps.getD 17 undef, tmps.getD 18 undef, tmps.getD 19 undef, tmps.getD 20 undef, tmps.getD 21 undef, tmps.getD 22 undef, tmps.getD 23 undef, tmps.getD 24 undef, tmps.getD 25 undef, tmps.getD 26 undef, tmps.getD 27 undef, tmps.getD 28 undef, tmps.getD 29 undef, tmps.getD 30 undef, tmps.getD 31 undef, tmps.getD 32 undef, tmps.getD 33 undef, tmps.getD 34 undef, tmps.getD 35 undef, tmps.getD 36 undef, tmps.getD 37 undef, tmps.getD 38 undef, tmps.getD 39 undef, tmps.getD 40 undef, tmps.getD 41 undef, tmps.getD 42 undef, tmps.getD 43 undef, tmps.getD 44 undef, tmps.getD 45 undef, tmps.getD 46 undef, tmps.getD 47 undef, tmps.getD 48 undef, tmps.getD 49 undef, tmps.getD 50 undef, tmps.getD 51 undef, tmps.getD 52 undef, tmps.getD 53 undef, tmps.getD 54 undef, tmps.getD 55 undef, tmps.getD 56 undef, tmps.getD 57 undef, tmps.getD 58 undef, tmps.getD 59 undef, tmps.getD 60 undef, tmps.getD 61 undef, tmps.getD 62 undef, tmps.getD 63 undef, tmps.getD 64 undef, tmps.getD 65 undef, tmps.getD 66 undef, tmps.getD 67 undef, tmps.getD 68 undef, tmps.getD 69 undef, tmps.getD 70 undef, tmps.getD 71 undef, tmps.getD 72 undef, tmps.getD 73 undef, tmps.getD 74 undef, tmps.getD 75 undef, tmps.getD 76 undef, tmps.getD 77 undef, tmps.getD 78 undef, tmps.getD 79 undef, tmps.getD 80 undef, tmps.getD 81 undef, tmps.getD 82 undef, tmps.getD 83 undef, tmps.getD 84 undef, tmps.getD 85 undef, tmps.getD 86 undef, tmps.getD 87 undef, tmps.getD 88 undef, tmps.getD 89 undef, tmps.getD 90 undef, tmps.getD 91 undef, tmps.getD 92 undef, tmps.getD 93 undef, tmps.getD 94 undef, tmps.getD 95 undef, tmps.getD 96 undef, tmps.getD 97 undef, tmps.getD 98 undef, tmps.getD 99 undef, tmps.getD 100 undef, tmps.getD 101 undef, tmps.getD 102 undef, tmps.getD 103 undef, tmps.getD 104 undef, tmps.getD 105 undef, tmps.getD 106 undef, tmps.getD 107 undef, tmps.getD 108 undef, tmps.getD 109 undef, tmps.getD 110 undef, tmps.getD 111 undef, tmps.getD 112 undef, tmps.getD 113 undef, tmps.getD 114 undef, tmps.getD 115 undef, tmps.getD 116 undef, tmps.getD 117 undef, tmps.getD 118 undef, tmps.getD 119 undef, tmps.getD 120 undef, tmps.getD 121 undef, tmps.getD 122 undef, tmps.getD 123 undef, tmps.getD 124 undef, tmps.getD 125 undef, tmps.getD 126 undef, tmps.getD 127 undef, tmps.getD 128 undef, tmps.getD 129 undef] := by
  have h1 : tmps.toList = (List.range 130).map (fun i => tmps.getD i undef) := by
    apply List.ext_getElem
    · simp [h]
    · intro i h2 h3
      simp at h2
      simp [h2]
  calc tmps = ⟨tmps.toList⟩ := rfl
    _ = ⟨(List.range 130).map (fun i => tmps.getD i undef)⟩ := by rw [h1]
    _ = _ := rfl
theorem FrT.frame {a : Act} {s0 s1 s5 s7 s8 : Value} (h : FrT a s0 s1 s5 s7 s8) : ∃ f : Nat → Value, (∀ i, a.tmps.getD i undef = f i) ∧ a = { tmps := #[s0, s1, f 2, f 3, f 4, s5, f 6, s7, s8, f 9, f 10, f 11, f 12, f 13, f 14, f 15, f 16, f 17, f 18, f 19, f 20, f 21, f 22, f 23, f 24, f 25, f 26, f 27, f 28, f 29, f 30, f 31, f 32, f 33, f 34, f 35, f 36, f 37, f 38, f 39, f 40, f 41, f 42, f 43, f 44, f 45, f 46, f 47, f 48, f 49, f 50, f 51, f 52, f 53, f 54, f 55, f 56, f 57, f 58, f 59, f 60, f 61, f 62, f 63, f 64, f 65, f 66, f 67, f 68, f 69, f 70, f 71, f 72, f 73, f 74, f 75, f 76, f 77, f 78, f 79, f 80, f 81, f 82, f 83, f 84, f 85, f 86, f 87, f 88, f 89, f 90, f 91, f 92, f 93, f 94, f 95, f 96, f 97, f 98, f 99, f 100, f 101, f 102, f 103, f 104, f 105, f 106, f 107, f 108, f 109, f 110, f 111, f 112, f 113, f 114, f 115, f 116, f 117, f 118, f 119, f 120, f 121, f 122, f 123, f 124, f 125, f 126, f 127, f 128, f 129], defers := [] } := by
  refine ⟨fun i => a.tmps.getD i undef, fun _ => rfl, ?_⟩
  obtain ⟨tmps, defers⟩ := a
  have h1 := FrT_slots tmps h.size
  rw [h.e0, h.e1, h.e5, h.e7, h.e8] at h1
  have h2 := h.marks
  simp only at h2
  rw [h2]
  exact congrArg (fun t => Act.mk t []) h1

/-- the table's own row, when c rows are made -/
def topv (T m c : Nat) : Nat → Value := fun j => if j < c then .slice (some ⟨T + 1 + j, 0, none⟩) (m + 1) (m + 1) else .slice none 0 0
structure GA (w : World) (n m c : Nat) (W : World) : Prop where
  bel : Below w.heap.size w W
  size : W.heap.size = w.heap.size + 1 + c
  top : W.rowIs w.heap.size 76 (n + 1) (topv w.heap.size m c)
  done : ∀ j, j < c → W.rowIs (w.heap.size + 1 + j) 3 (m + 1) (fun _ => .int .i64 0)
theorem ga_start (w : World) (n m : Nat) : GA w n m 0 (w.alloc (.cells (madeCells #[.slice none 0 0] (n + 1)) 76)) :=
  ⟨bel_alloc (Below.refl _ _) _, by simp, (World.rowIs_made w _ (n + 1) 76).congr (fun j _ => by simp [topv]), fun j hj => absurd hj (Nat.not_lt_zero _)⟩
theorem ga_next {w W W' : World} {n m c : Nat} (h : GA w n m c W) (e : W' = W.alloc (.cells (madeCells #[.int .i64 0] (m + 1)) 3)) : GA w n m (c + 1) (W'.setCell ⟨w.heap.size, c, none⟩ (.slice (some ⟨w.heap.size + 1 + c, 0, none⟩) (m + 1) (m + 1))) := by
  subst e
  have hnew := World.rowIs_made W (.int .i64 0) (m + 1) 3
  rw [h.size] at hnew
  refine ⟨bel_set (bel_alloc h.bel _) (Nat.le_refl _), by simp [World.setCell, h.size]; omega, ((h.top.alloc _).set c _).congr (fun j _ => ?_), fun j hj => ?_⟩
  · simp only [topv]
    by_cases e : j = c
    · subst e; simp
    · rw [if_neg e]
      by_cases hlt : j < c
      · rw [if_pos hlt, if_pos (by omega)]
      · rw [if_neg hlt, if_neg (by omega)]
  · by_cases e : j = c
    · subst e; exact hnew.setOther (by show w.heap.size + 1 + j ≠ w.heap.size; omega) _
    · exact ((h.done j (by omega)).alloc _).setOther (by show w.heap.size + 1 + j ≠ w.heap.size; omega) _
theorem ga_end {w W : World} {a b : List Tx} {n m : Nat} (hn : a.length = n) (hm : b.length = m) (h : GA w n m (n + 1) W) : KT w w.heap.size n m (sofarT a b n m) W := by
  subst hn hm
  refine ⟨h.bel, h.top.congr (fun j hj => by simp only [topv]; rw [if_pos hj]), fun j hj => (h.done j (by omega)).congr (fun c hc => ?_)⟩
  rw [sofarT_start a b j c hj (by omega)]
/-- the table with one more place reckoned so far as z -/
def putT (a b : List Tx) (i k : Nat) (z : Int) (j c : Nat) : Int := if j = i ∧ c = k then z else sofarT a b (i + 1) (k + 1) j c
theorem kt_put {w W : World} {a b : List Tx} {n m i k : Nat} {z z' : Int} (h : KT w w.heap.size n m (putT a b i k z) W) : KT w w.heap.size n m (putT a b i k z') (W.setCell ⟨w.heap.size + 1 + i, k, none⟩ (.int .i64 z')) := by
  refine (h.set (Nat.le_refl _) i k z').congr fun j c _ _ => ?_
  unfold putT
  split <;> rfl
theorem kt_first {w W : World} {a b : List Tx} {n m i k : Nat} (h : KT w w.heap.size n m (sofarT a b (i + 1) (k + 1)) W) : KT w w.heap.size n m (putT a b i k 0) W := by
  refine h.congr fun j c _ _ => ?_
  unfold putT
  by_cases e : j = i ∧ c = k
  · rw [if_pos e]; unfold sofarT; rw [if_neg (by omega), if_neg (by omega)]
  · rw [if_neg e]
theorem kt_last {w W : World} {a b : List Tx} {n m i k : Nat} {z : Int} (hz : lr a b i k = z) (h : KT w w.heap.size n m (putT a b i k z) W) : KT w w.heap.size n m (sofarT a b (i + 1) k) W :=
  h.congr fun j c _ _ => by rw [← sofarT_one a b i k j c, ← hz]; rfl
theorem putT_far (a b : List Tx) (i k j c : Nat) (z : Int) (h : i + 1 ≤ j ∨ j = i ∧ k + 1 ≤ c) : putT a b i k z j c = lr a b j c := by
  unfold putT sofarT
  rw [if_neg (by omega)]
  by_cases h1 : i + 1 ≤ j
  · rw [if_pos h1]
  · rw [if_neg h1, if_pos (by omega)]
theorem putT_at (a b : List Tx) (i k : Nat) (z : Int) : putT a b i k z i k = z := by unfold putT; rw [if_pos ⟨rfl, rfl⟩]
/-- the cells that a place is reckoned of -/
structure Near (T n m i k : Nat) (z p q r : Int) (W : World) : Prop where
  t0 : W.cell? ⟨T, i, none⟩ = some (.slice (some ⟨T + 1 + i, 0, none⟩) (m + 1) (m + 1))
  t1 : W.cell? ⟨T, i + 1, none⟩ = some (.slice (some ⟨T + 1 + (i + 1), 0, none⟩) (m + 1) (m + 1))
  c0 : W.cell? ⟨T + 1 + i, k, none⟩ = some (.int .i64 z)
  c1 : W.cell? ⟨T + 1 + (i + 1), k, none⟩ = some (.int .i64 p)
  c2 : W.cell? ⟨T + 1 + i, k + 1, none⟩ = some (.int .i64 q)
  c3 : W.cell? ⟨T + 1 + (i + 1), k + 1, none⟩ = some (.int .i64 r)
  th : W.frozen? ⟨T + 1 + i, k, none⟩ = false
theorem near_of {w W : World} {a b : List Tx} {n m i k : Nat} {z p q r : Int} (h : KT w w.heap.size n m (putT a b i k z) W) (hi : i < n) (hk : k < m) (hp : lr a b (i + 1) k = p) (hq : lr a b i (k + 1) = q) (hr : lr a b (i + 1) (k + 1) = r) : Near w.heap.size n m i k z p q r W := by
  refine ⟨h.slot i (by omega), h.slot (i + 1) (by omega), ?_, ?_, ?_, ?_, h.thaw i k (by omega)⟩
  · have := h.cell i k (by omega) (by omega); rwa [putT_at] at this
  · have := h.cell (i + 1) k (by omega) (by omega); rwa [putT_far _ _ _ _ _ _ _ (Or.inl (by omega)), hp] at this
  · have := h.cell i (k + 1) (by omega) (by omega); rwa [putT_far _ _ _ _ _ _ _ (Or.inr ⟨rfl, by omega⟩), hq] at this
  · have := h.cell (i + 1) (k + 1) (by omega) (by omega); rwa [putT_far _ _ _ _ _ _ _ (Or.inl (by omega)), hr] at this

/-- what is answered -/
def TAns (w : World) (a b : List Tx) (e : Ending) (w' : World) : Prop := e = .returned (.slice (some ⟨w.heap.size, 0, none⟩) (a.length + 1) (a.length + 1)) ∧ KT w w.heap.size a.length b.length (lr a b) w'

set_option maxRecDepth 3000 in
set_option maxHeartbeats 16000000 in
theorem ptable_any (v u : Value) (a b : List Tx) (w : World) (hA : RowAt w v a) (hB : RowAt w u b) (hla : a.length ≤ 4294967296) (hlb : b.length ≤ 4294967296) :
    Calls Try.prog 63 #[v, u] w (TAns w a b) := by
  obtain ⟨ao, cap, rfl, hca⟩ := hA.open_
  obtain ⟨bo, cap2, rfl, hcb⟩ := hB.open_
  obtain ⟨n, hn⟩ : ∃ n, a.length = n := ⟨_, rfl⟩
  obtain ⟨m, hm⟩ : ∃ m, b.length = m := ⟨_, rfl⟩
  rw [hn] at hla hca ⊢
  rw [hm] at hlb hcb ⊢
  have HN := hidden hn
  have HM := hidden hm
  have HCA := hidden hca
  have HCB := hidden hcb
  clear hA hB hca hcb hn hm
  go_enter Try.func63, Try.ntmps63
  go_wp2_with (at_make; go_must (refine wpList_make_at _ rfl _ _ 74 rfl 76 (.slice none 0 0) 24 Try.underlying74 Try.infoInts rfl _ _ (n + 1) rfl rfl (by simp) (by simp) (by omega) (by omega) ?_; intro w9 hw9; have HS9 := hidden (show GA w n m 0 w9 from (by rw [hw9]; exact ga_start w n m)); clear hw9))
  go_loopw [6] (fun v6 wr => ∃ c : Nat, c ≤ n + 1 ∧ v6 = .int .i64 c ∧ Hid (GA w n m c wr)) (fun v6 _ => n + 1 - (intOf v6).toNat)
  case atStart => exact ⟨0, by omega, rfl, HS9.out⟩
  case round =>
    obtain ⟨c, hc, rfl, hga⟩ := hrel
    have hsz := hga.out.size
    have hth : wr.frozen? ⟨w.heap.size, c, none⟩ = false := hga.out.top.frozen c
    by_cases hlt : c ≤ n
    · go_wp2_with (at_make; go_must (refine wpList_make_at _ rfl _ _ 76 rfl 3 (.int .i64 0) 8 Try.underlying76 Try.infoInt rfl _ _ (m + 1) rfl rfl (by simp) (by simp) (by omega) (by omega) ?_; intro w9 hw9; have HG := hidden (ga_next hga.out hw9); have hth9 : w9.frozen? ⟨w.heap.size, c, none⟩ = false := (by rw [hw9]; exact (hga.out.top.alloc _).frozen c); have hce9 : w9.cell? ⟨w.heap.size, c, none⟩ = some (.slice none 0 0) := (by rw [hw9]; have := (hga.out.top.alloc (.cells (madeCells #[.int .i64 0] (m + 1)) 3)).cell (i := c) (by omega); simpa [topv] using this); clear hw9))
      go_roundw
      case rel => exact ⟨c + 1, by omega, by go_num, by first | exact HG.out | (rw [hsz]; exact HG.out)⟩
      case measure => simp [intOf]; omega
    · obtain rfl : c = n + 1 := by omega
      have HK := hidden (ga_end HN.out HM.out hga.out)
      clear hga hsz hth
      go_wp2_with fail
      refine wp_loop_ghost_k (fun g a' wo => ∃ (ni : Nat) (s8 : Value), ni ≤ n ∧ FrT a' (.slice ao n cap) (.slice bo m cap2) (.slice (some ⟨w.heap.size, 0, none⟩) (n + 1) (n + 1)) (.int .i64 ((ni : Int) - 1)) s8 ∧ Hid (g = ni ∧ KT w w.heap.size n m (sofarT a b ni m) wo)) n ?start ?round
      case start => exact ⟨n, _, Nat.le_refl _, ⟨rfl, rfl, rfl, rfl, rfl, rfl, rfl⟩, ⟨rfl, HK.out⟩⟩
      case round =>
      intro gk _ wo hinv
      obtain ⟨ni, u8, hni, hfr, hgs⟩ := hinv
      obtain ⟨ff, hff, ha⟩ := hfr.frame
      clear hff hfr HK hc hlt
      subst ha
      try dsimp only
      intro _ _ _ _
      have HG := hidden hgs.out.1
      have HK := hidden hgs.out.2
      clear hgs
      cases ni with
      | zero =>
        go_wp2_with fail
        go_ret
        exact ⟨by rw [HN.out]; rfl, by rw [HN.out, HM.out]; exact HK.out.congr fun j c _ _ => sofarT_all a b m j c⟩
      | succ i =>
      rw [show (((i + 1 : Nat) : Int) - 1) = (i : Int) by omega]
      have hin : i < n := by omega
      go_wp2_with fail
      refine wp_loop_ghost_k (fun g a' wi => ∃ nk : Nat, nk ≤ m ∧ FrT a' (.slice ao n cap) (.slice bo m cap2) (.slice (some ⟨w.heap.size, 0, none⟩) (n + 1) (n + 1)) (.int .i64 i) (.int .i64 ((nk : Int) - 1)) ∧ Hid (g = nk ∧ KT w w.heap.size n m (sofarT a b (i + 1) nk) wi)) m ?start ?round
      case start => exact ⟨m, Nat.le_refl _, ⟨rfl, rfl, rfl, rfl, rfl, rfl, rfl⟩, ⟨rfl, HK.out⟩⟩
      case round =>
      intro gj _ wi hinv
      obtain ⟨nk, hnk, hfr, hgs⟩ := hinv
      obtain ⟨ff2, hff, ha⟩ := hfr.frame
      clear hff hfr HK
      subst ha
      try dsimp only
      intro _ _ _ _
      have HJ := hidden hgs.out.1
      have HK := hidden hgs.out.2
      clear hgs
      cases nk with
      | zero =>
        go_wp2_with fail
        refine Handed.intro i (by have := HG.out; omega) ?_
        go_step
        exact ⟨i, _, by omega, ⟨rfl, rfl, rfl, rfl, rfl, rfl, rfl⟩, ⟨rfl, HK.out.congr fun j c _ hc => by rw [← HM.out] at hc; rw [sofarT_row a b i j c hc, HM.out]⟩⟩
      | succ k =>
      rw [show (((k + 1 : Nat) : Int) - 1) = (k : Int) by omega]
      have hkm : k < m := by omega
      have HK0 := hidden (kt_first HK.out)
      clear HK
      obtain ⟨p, hp⟩ : ∃ p, lr a b (i + 1) k = p := ⟨_, rfl⟩
      obtain ⟨q, hq⟩ : ∃ q, lr a b i (k + 1) = q := ⟨_, rfl⟩
      obtain ⟨r, hr⟩ : ∃ r, lr a b (i + 1) (k + 1) = r := ⟨_, rfl⟩
      have HP := hidden hp
      have HQ := hidden hq
      have HR := hidden hr
      have hp1 : 0 ≤ p ∧ p ≤ n := by have := lr_le a b (i + 1) k; rw [hp, HN.out] at this; exact this
      have hq1 : 0 ≤ q ∧ q ≤ n := by have := lr_le a b i (k + 1); rw [hq, HN.out] at this; exact this
      have hr1 : 0 ≤ r ∧ r ≤ n := by have := lr_le a b (i + 1) (k + 1); rw [hr, HN.out] at this; exact this
      clear hp hq hr
      go_upto_region 12 with fail
      refine wp_cut (fun a' wx => FrT a' (.slice ao n cap) (.slice bo m cap2) (.slice (some ⟨w.heap.size, 0, none⟩) (n + 1) (n + 1)) (.int .i64 i) (.int .i64 k) ∧ Hid (KT w w.heap.size n m (putT a b i k p) wx)) ?rest ?first
      case first =>
        intro J9 K9 hJ9 hK9
        obtain ⟨n1, n2, n3, n4, n5, n6, n7⟩ := near_of HK0.out hin hkm HP.out HQ.out HR.out
        have HE := hidden (kt_put (z' := p) HK0.out)
        clear n5 n6
        go_region
        first | refine Met.intro (hJ9 _ _ ?_) | refine hK9 _ _ (Met.intro (hJ9 _ _ ?_))
        exact ⟨⟨rfl, rfl, rfl, rfl, rfl, rfl, rfl⟩, by first | exact HE.out | exact HE.out.drew⟩
      case rest =>
      intro _ wc hinv
      obtain ⟨hfr, HK1⟩ := hinv
      obtain ⟨ff3, hff, ha⟩ := hfr.frame
      clear hff hfr
      subst ha
      try dsimp only
      go_upto_region 13 with fail
      refine wp_cut (fun a' wx => FrT a' (.slice ao n cap) (.slice bo m cap2) (.slice (some ⟨w.heap.size, 0, none⟩) (n + 1) (n + 1)) (.int .i64 i) (.int .i64 k) ∧ a'.tmps.getD 69 undef = .bool (decide (p < q)) ∧ Hid (KT w w.heap.size n m (putT a b i k p) wx)) ?rest ?first
      case first =>
        intro J9 K9 hJ9 hK9
        obtain ⟨n1, n2, n3, n4, n5, n6, n7⟩ := near_of HK1.out hin hkm HP.out HQ.out HR.out
        clear n2 n4 n6
        go_region
        first | refine Met.intro (hJ9 _ _ ?_) | refine hK9 _ _ (Met.intro (hJ9 _ _ ?_))
        exact ⟨⟨rfl, rfl, rfl, rfl, rfl, rfl, rfl⟩, by first | rfl | simp, by first | exact HK1.out | exact HK1.out.drew⟩
      case rest =>
      intro _ wc hinv
      obtain ⟨hfr, hv, HK2⟩ := hinv
      obtain ⟨ff3, hff, ha⟩ := hfr.frame
      rw [hff 69] at hv
      clear hff hfr
      subst ha
      try dsimp only
      rw [hv]
      clear hv
      go_upto_if 69 with fail
      refine wp_cut (fun a' wx => FrT a' (.slice ao n cap) (.slice bo m cap2) (.slice (some ⟨w.heap.size, 0, none⟩) (n + 1) (n + 1)) (.int .i64 i) (.int .i64 k) ∧ Hid (KT w w.heap.size n m (putT a b i k (max p q)) wx)) ?rest ?first
      case first =>
        intro J9 K9 hJ9 hK9
        by_cases hpq : p < q
        · rw [decide_eq_true hpq]
          have HE := hidden (show KT w w.heap.size n m (putT a b i k (max p q)) _ by rw [show max p q = q by omega]; exact kt_put (z' := q) HK2.out)
          obtain ⟨n1, n2, n3, n4, n5, n6, n7⟩ := near_of HK2.out hin hkm HP.out HQ.out HR.out
          clear n2 n4 n6
          go_upto_region 14 with fail
          go_region
          first | refine Met.intro (hJ9 _ _ ?_) | refine hK9 _ _ (Met.intro (hJ9 _ _ ?_))
          exact ⟨⟨rfl, rfl, rfl, rfl, rfl, rfl, rfl⟩, by first | exact HE.out | exact HE.out.drew⟩
        · rw [decide_eq_false hpq]
          have HE := hidden (show KT w w.heap.size n m (putT a b i k (max p q)) _ by rw [show max p q = p by omega]; exact HK2.out)
          go_wp2_with fail
          first | refine Met.intro (hJ9 _ _ ?_) | refine hK9 _ _ (Met.intro (hJ9 _ _ ?_))
          exact ⟨⟨rfl, rfl, rfl, rfl, rfl, rfl, rfl⟩, by first | exact HE.out | exact HE.out.drew⟩
      case rest =>
      intro _ wc hinv
      obtain ⟨hfr, HK3⟩ := hinv
      obtain ⟨ff3, hff, ha⟩ := hfr.frame
      clear hff hfr
      subst ha
      try dsimp only
      obtain ⟨x, hx⟩ : ∃ x, a[i]? = some x := ⟨a[i]'(by rw [HN.out]; exact hin), List.getElem?_eq_getElem _⟩
      obtain ⟨y, hy⟩ : ∃ y, b[k]? = some y := ⟨b[k]'(by rw [HM.out]; exact hkm), List.getElem?_eq_getElem _⟩
      have HST := hidden (lr_step hx hy)
      obtain ⟨b1, o1, hao, hcp1, hb1, cx⟩ := HCA.out i x hx
      obtain ⟨b2, o2, hbo, hcp2, hb2, cy⟩ := HCB.out k y hy
      subst hao hbo
      clear hx hy
      obtain ⟨z, hz⟩ : ∃ z, max p q = z := ⟨_, rfl⟩
      rw [hz] at HK3
      have HZ := hidden hz
      have hz1 : 0 ≤ z ∧ z ≤ n := by omega
      clear hz
      go_upto_region 15 with fail
      refine wp_cut (fun a' wx => FrT a' (.slice (some ⟨b1, o1, none⟩) n cap) (.slice (some ⟨b2, o2, none⟩) m cap2) (.slice (some ⟨w.heap.size, 0, none⟩) (n + 1) (n + 1)) (.int .i64 i) (.int .i64 k) ∧ a'.tmps.getD 112 undef = .bool (decide (x = y) && decide (z < r + 1)) ∧ Hid (KT w w.heap.size n m (putT a b i k z) wx)) ?rest ?first
      case first =>
        intro J9 K9 hJ9 hK9
        have cx2 := (HK3.out.bel.cell (p := ⟨b1, o1 + i, none⟩) hb1).trans cx
        have cy2 := (HK3.out.bel.cell (p := ⟨b2, o2 + k, none⟩) hb2).trans cy
        obtain ⟨n1, n2, n3, n4, n5, n6, n7⟩ := near_of HK3.out hin hkm HP.out HQ.out HR.out
        clear n4 n5 cx cy
        by_cases hxy : x = y
        · subst hxy
          have hqq : (x == x) = true := by simp
          go_region
          first | refine Met.intro (hJ9 _ _ ?_) | refine hK9 _ _ (Met.intro (hJ9 _ _ ?_))
          exact ⟨⟨rfl, rfl, rfl, rfl, rfl, rfl, rfl⟩, by simp, by first | exact HK3.out | exact HK3.out.drew⟩
        · have hqq : (x == y) = false := by simpa using hxy
          have HXY := hidden hxy
          clear hxy
          go_region
          first | refine Met.intro (hJ9 _ _ ?_) | refine hK9 _ _ (Met.intro (hJ9 _ _ ?_))
          exact ⟨⟨rfl, rfl, rfl, rfl, rfl, rfl, rfl⟩, by rw [decide_eq_false HXY.out]; rfl, by first | exact HK3.out | exact HK3.out.drew⟩
      case rest =>
      intro _ wc hinv
      obtain ⟨hfr, hv, HK4⟩ := hinv
      obtain ⟨ff3, hff, ha⟩ := hfr.frame
      rw [hff 112] at hv
      clear hff hfr
      subst ha
      try dsimp only
      rw [hv]
      clear hv
      clear cx cy
      by_cases hxy : x = y ∧ z < r + 1
      · rw [decide_eq_true hxy.1, decide_eq_true hxy.2]
        have HE := hidden (kt_last (z := r + 1) (by rw [HST.out, HP.out, HQ.out, HR.out, HZ.out, if_pos hxy.1]; omega) (kt_put (z' := r + 1) HK4.out))
        obtain ⟨n1, n2, n3, n4, n5, n6, n7⟩ := near_of HK4.out hin hkm HP.out HQ.out HR.out
        clear n4 n5 hxy
        go_upto_region 16 with fail
        go_region
        go_wp2_with fail
        refine Handed.intro k (by have := HJ.out; omega) ?_
        go_step
        exact ⟨k, by omega, ⟨rfl, rfl, rfl, rfl, rfl, rfl, rfl⟩, ⟨rfl, by first | exact HE.out | exact HE.out.drew⟩⟩
      · have hb : (decide (x = y) && decide (z < r + 1)) = false := by
          rw [Bool.and_eq_false_iff]
          by_cases h : x = y
          · exact Or.inr (decide_eq_false fun h2 => hxy ⟨h, h2⟩)
          · exact Or.inl (decide_eq_false h)
        rw [hb]
        have HE := hidden (kt_last (z := z) (by
          rw [HST.out, HP.out, HQ.out, HR.out, HZ.out]
          by_cases h : x = y
          · rw [if_pos h]; have : ¬ z < r + 1 := fun h2 => hxy ⟨h, h2⟩; omega
          · rw [if_neg h]; omega) HK4.out)
        clear hxy hb
        go_wp2_with fail
        refine Handed.intro k (by have := HJ.out; omega) ?_
        go_step
        exact ⟨k, by omega, ⟨rfl, rfl, rfl, rfl, rfl, rfl, rfl⟩, ⟨rfl, HE.out⟩⟩

end Go.Proofs.Ytmbalnjobcgpkaa

namespace Go.Proofs.Ytmbalnjobcgpkaa
open Go.RowKit Go.Deep Go.Proofs.Ytmbalnjobcgpkaa.Ln Go.Proofs.Ytmbalnjobcgpkaa.Ol

/-- what lies in memory while the steps are told -/
structure KD (w1 : World) (a b : List Tx) (i k : Nat) (out : List Oq) (vo : Value) (W : World) : Prop where
  bel : Below w1.heap.size w1 W
  own : W.ownsRow w1.heap.size 37 3 vo out.length (cellsO out)
  eq : out ++ df (a.drop i) (b.drop k) = df a b
theorem KD.drew {w1 : World} {a b : List Tx} {i k : Nat} {out : List Oq} {vo : Value} {W : World} (h : KD w1 a b i k out vo W) : KD w1 a b i k out vo W.drew :=
  ⟨h.bel.trans ((Below.refl _ W).drew.mono h.bel.size), owns_later h.own (Below.refl _ W).drew, h.eq⟩
theorem KD.add {w1 : World} {a b : List Tx} {i k i' k' : Nat} {out : List Oq} {vo v' : Value} {x : Oq} {W W' : World} (h : KD w1 a b i k out vo W) (ho : W'.ownsRow w1.heap.size 37 3 v' (out ++ [x]).length (cellsO (out ++ [x]))) (ha : Adds (W.alloc (opO x.1 x.2.1 x.2.2)) W' vo v') (he : df (a.drop i) (b.drop k) = x :: df (a.drop i') (b.drop k')) : KD w1 a b i' k' (out ++ [x]) v' W' :=
  ⟨adds_bel (bel_alloc h.bel _) (by have := h.bel.size; simp; omega) (h.own.alloc _) ha, ho, by rw [← h.eq, he]; simp⟩
theorem df_len_le (a b : List Tx) : (df a b).length ≤ a.length + b.length := by have := (df_len a b).1; omega
/-- the first case: both lines are one, and the common row is one longer with them -/
def C1 (a b : List Tx) (i k : Nat) : Prop := i < a.length ∧ k < b.length ∧ a[i]? = b[k]? ∧ lr a b i k = lr a b (i + 1) (k + 1) + 1
/-- the second case -/
def C2 (a b : List Tx) (i k : Nat) : Prop := k = b.length ∨ i < a.length ∧ lr a b i (k + 1) ≤ lr a b (i + 1) k
theorem df_one {a b : List Tx} {i k : Nat} {x : Tx} (hx : a[i]? = some x) (h : C1 a b i k) : df (a.drop i) (b.drop k) = (2, 0, x) :: df (a.drop (i + 1)) (b.drop (k + 1)) := by
  obtain ⟨h1, h2, h3, h4⟩ := h
  rw [hx] at h3
  obtain ⟨_, e1⟩ := List.getElem?_eq_some_iff.1 hx
  obtain ⟨_, e2⟩ := List.getElem?_eq_some_iff.1 h3.symm
  unfold lr at h4
  rw [List.drop_eq_getElem_cons h1, List.drop_eq_getElem_cons h2, e1, e2] at h4 ⊢
  rw [df_cons, if_pos ⟨rfl, by omega⟩]
theorem df_two {a b : List Tx} {i k : Nat} {x : Tx} (hx : a[i]? = some x) (h : ¬ C1 a b i k) (h2 : C2 a b i k) : df (a.drop i) (b.drop k) = (3, 0, x) :: df (a.drop (i + 1)) (b.drop k) := by
  obtain ⟨h1, e1⟩ := List.getElem?_eq_some_iff.1 hx
  rw [List.drop_eq_getElem_cons h1, e1]
  by_cases hk : b.length ≤ k
  · rw [List.drop_of_length_le hk]; rfl
  · have hk : k < b.length := by omega
    rcases h2 with h2 | ⟨_, h2⟩
    · omega
    · have h3 : ¬ (a[i]? = b[k]? ∧ lr a b i k = lr a b (i + 1) (k + 1) + 1) := fun e => h ⟨h1, hk, e⟩
      unfold lr at h2 h3
      rw [List.drop_eq_getElem_cons hk] at h2 h3 ⊢
      rw [List.drop_eq_getElem_cons h1, e1] at h2 h3
      rw [hx, List.getElem?_eq_getElem hk] at h3
      rw [df_cons, if_neg (fun e => h3 ⟨by rw [e.1], by have := e.2; omega⟩), if_pos (by omega)]
theorem df_three {a b : List Tx} {i k : Nat} {y : Tx} (hi : i ≤ a.length) (hy : b[k]? = some y) (h : ¬ C1 a b i k) (h2 : ¬ C2 a b i k) : df (a.drop i) (b.drop k) = (4, 0, y) :: df (a.drop i) (b.drop (k + 1)) := by
  obtain ⟨hk, e2⟩ := List.getElem?_eq_some_iff.1 hy
  by_cases hi2 : i = a.length
  · subst hi2
    rw [List.drop_length, df_nil, df_nil, List.drop_eq_getElem_cons hk, e2]; rfl
  · have h1 : i < a.length := by omega
    have h3 : ¬ (a[i]? = b[k]? ∧ lr a b i k = lr a b (i + 1) (k + 1) + 1) := fun e => h ⟨h1, hk, e⟩
    have h4 : ¬ lr a b i (k + 1) ≤ lr a b (i + 1) k := fun e => h2 (Or.inr ⟨h1, e⟩)
    unfold lr at h4 h3
    rw [List.drop_eq_getElem_cons hk, e2] at h4 h3 ⊢
    rw [List.drop_eq_getElem_cons h1] at h4 h3 ⊢
    rw [hy, List.getElem?_eq_getElem h1] at h3
    rw [df_cons, if_neg (fun e => h3 ⟨by rw [e.1], by have := e.2; omega⟩), if_neg (by omega)]

/-- the frame, as far as it matters -/
structure FrD (a : Act) (s0 s1 s5 s6 s7 s8 : Value) : Prop where
  size : a.tmps.size = 127
  e0 : a.tmps.getD 0 undef = s0
  e1 : a.tmps.getD 1 undef = s1
  e5 : a.tmps.getD 5 undef = s5
  e6 : a.tmps.getD 6 undef = s6
  e7 : a.tmps.getD 7 undef = s7
  e8 : a.tmps.getD 8 undef = s8
  marks : a.defers = []
theorem FrD_slots (tmps : Array Value) (h : tmps.size = 127) : tmps = #[tmps.getD 0 undef, tmps.getD 1 undef, tmps.getD 2 undef, tmps.getD 3 undef, tmps.getD 4 undef, tmps.getD 5 undef, tmps.getD 6 undef, tmps.getD 7 undef, tmps.getD 8 undef, tmps.getD 9 undef, tmps.getD 10 undef, tmps.getD 11 undef, tmps.getD 12 undef, tmps.getD 13 undef, tmps.getD 14 undef, tmps.getD 15 undef, tmps.getD 16 undef, tmps.getD 17 undef, tmps.getD 18 undef, tmps.getD 19 undef, tmps.getD 20 undef, tmps.getD 21 undef, tmps.getD 22 undef, tmps.getD 23 undef, tmps.getD 24 undef, tmps.getD 25 undef, tmps.getD 26 undef, tmps.getD 27 undef, tmps.getD 28 undef, tmps.getD 29 undef, tmps.getD 30 undef, tmps.getD 31 undef, tmps.getD 32 undef, tmps.getD 33 undef, tmps.getD 34 undef, tmps.getD 35 undef, tmps.getD 36 undef, tmps.getD 37 undef, tmps.getD 38 undef, tmps.getD 39 undef, tmps.getD 40 undef, tmps.getD 41 undef, tmps.getD 42 undef, tmps.getD 43 undef, tmps.getD 44 undef, tmps.getD 45 undef, tmps.getD 46 undef, tmps.getD 47 undef, tmps.getD 48 undef, tmps.getD 49 undef, tmps.getD 50 undef, tmps.getD 51 undef, tmps.getD 52 undef, tmps.getD 53 undef, tmps.getD 54 undef, tmps.getD 55 undef, tmps.getD 56 undef, tmps.getD 57 undef, tmps.getD 58 undef, tmps.getD 59 undef, tmps.getD 60 undef, tmps.getD 61 undef, tmps.getD 62 undef, tmps.getD 63 undef, tmps.getD 64 undef, tmps.getD 65 undef, tmps.getD 66 undef, tmps.getD 67 undef, tmps.getD 68 undef, tmps.getD 69 undef, tmps.getD 70 undef, tmps.getD 71 undef, tmps.getD 72 undef, tmps.getD 73 undef, tmps.getD 74 undef, tmps.getD 75 undef, tmps.getD 76 undef, tmps.getD 77 undef, tmps.getD 78 undef, tmps.getD 79 undef, tmps.getD 80 undef, tmps.getD 81 undef, tmps.getD 82 undef, tmps.getD 83 undef, tmps.getD 84 undef, tmps.getD 85 undef, tmps.getD 86 undef, tmps.getD 87 undef, tmps.getD 88 undef, tmps.getD 89 undef, tmps.getD 90 undef, tmps.getD 91 undef, tmps.getD 92 undef, tmps.getD 93 undef, tmps.getD 94 undef, tmps.getD 95 undef, tmps.getD 96 undef, tmps.getD 97 undef, tmps.getD 98 undef, tmps.getD 99 undef, tmps.getD 100 undef, tmps.getD 101 undef, tmps.getD 102 undef, tmps.getD 103 undef, tmps.getD 104 undef, tmps.getD 105 undef, tmps.getD 106 undef, tmps.getD 107 undef, tmps.getD 108 undef, tmps.getD 109 undef, tmps.getD 110 undef, tmps.getD 111 undef, tmps.getD 112 undef, tmps.getD 113 undef, tmps.getD 114 undef, tmps.getD 115 undef, tmps.getD 116 undef, tmps.getD 117 undef, tmps.getD 118 undef, tmps.getD 119 undef, tmps.getD 120 undef, tmps.getD 121 undef, tmps.getD 122 undef, tmps.getD 123 undef, tmps.getD 124 undef, tmps.getD 125 undef, tmps.getD 126 undef] := by
  have h1 : tmps.toList = (List.range 127).map (fun i => tmps.getD i undef) := by
    apply List.ext_getElem
    · simp [h]
    · intro i h2 h3
      simp at h2
      simp [h2]
  calc tmps = ⟨tmps.toList⟩ := rfl
    _ = ⟨(List.range 127).map (fun i => tmps.getD i undef)⟩ := by rw [h1]
    _ = _ := rfl
theorem FrD.frame {a : Act} {s0 s1 s5 s6 s7 s8 : Value} (h : FrD a s0 s1 s5 s6 s7 s8) : ∃ f : Nat → Value, (∀ i, a.tmps.getD i undef = f i) ∧ a = { tmps := #[s0, s1, f 2, f 3, f 4, s5, s6, s7, s8, f 9, f 10, f 11, f 12, f 13, f 14, f 15, f 16, f 17, f 18, f 19, f 20, f 21, f 22, f 23, f 24, f 25, f 26, f 27, f 28, f 29, f 30, f 31, f 32, f 33, f 34, f 35, f 36, f 37, f 38, f 39, f 40, f 41, f 42, f 43, f 44, f 45, f 46, f 47, f 48, f 49, f 50, f 51, f 52, f 53, f 54, f 55, f 56, f 57, f 58, f 59, f 60, f 61, f 62, f 63, f 64, f 65, f 66, f 67, f 68, f 69, f 70, f 71, f 72, f 73, f 74, f 75, f 76, f 77, f 78, f 79, f 80, f 81, f 82, f 83, f 84, f 85, f 86, f 87, f 88, f 89, f 90, f 91, f 92, f 93, f 94, f 95, f 96, f 97, f 98, f 99, f 100, f 101, f 102, f 103, f 104, f 105, f 106, f 107, f 108, f 109, f 110, f 111, f 112, f 113, f 114, f 115, f 116, f 117, f 118, f 119, f 120, f 121, f 122, f 123, f 124, f 125, f 126], defers := [] } := by
  refine ⟨fun i => a.tmps.getD i undef, fun _ => rfl, ?_⟩
  obtain ⟨tmps, defers⟩ := a
  have h1 := FrD_slots tmps h.size
  rw [h.e0, h.e1, h.e5, h.e6, h.e7, h.e8] at h1
  have h2 := h.marks
  simp only at h2
  rw [h2]
  exact congrArg (fun t => Act.mk t []) h1

open Classical in
set_option maxRecDepth 3000 in
set_option maxHeartbeats 16000000 in
theorem plcsdiff_any (v u : Value) (a b : List Tx) (w : World) (hA : RowAt w v a) (hB : RowAt w u b) (hla : a.length ≤ 4294967296) (hlb : b.length ≤ 4294967296) :
    Calls Try.prog 44 #[v, u] w fun e w' => ∃ v', e = .returned v' ∧ OpsAt w' v' (df a b) ∧ Below w.heap.size w w' := by
  have HA := hidden hA
  have HB := hidden hB
  obtain ⟨ao, cap, rfl, hca⟩ := hA.open_
  obtain ⟨bo, cap2, rfl, hcb⟩ := hB.open_
  obtain ⟨n, hn⟩ : ∃ n, a.length = n := ⟨_, rfl⟩
  obtain ⟨m, hm⟩ : ∃ m, b.length = m := ⟨_, rfl⟩
  have HT := hidden (ptable_any _ _ a b w HA.out HB.out hla hlb)
  unfold TAns at HT
  rw [hn, hm] at HT
  rw [hn] at hla hca ⊢
  rw [hm] at hlb hcb ⊢
  have HN := hidden hn
  have HM := hidden hm
  have HCA := hidden hca
  have HCB := hidden hcb
  clear hA hB hca hcb hn hm
  go_enter Try.func44, Try.ntmps44
  go_wp2_with fail
  refine HT.out.mono ?_
  rintro e w1 ⟨rfl, hk⟩
  have HK := hidden hk
  clear hk
  have HS := hidden (show KD w1 a b 0 0 [] (.slice none 0 0) w1 from ⟨Below.refl _ _, ⟨rfl, Or.inl ⟨rfl, rfl⟩⟩, rfl⟩)
  go_wp2_with fail
  refine wp_loop_ghost_k (fun g a' wr => ∃ (i k : Nat) (out : List Oq) (v6 : Value), i ≤ n ∧ k ≤ m ∧ FrD a' (.slice ao n cap) (.slice bo m cap2) (.slice (some ⟨w.heap.size, 0, none⟩) (n + 1) (n + 1)) v6 (.int .i64 i) (.int .i64 k) ∧ Hid (g = (n - i) + (m - k) ∧ KD w1 a b i k out v6 wr)) (n + m) ?start ?round
  case start => exact ⟨0, 0, [], _, Nat.zero_le _, Nat.zero_le _, ⟨rfl, rfl, rfl, rfl, rfl, rfl, rfl, rfl⟩, ⟨by simp, HS.out⟩⟩
  case round =>
  intro gk _ wr hinv
  obtain ⟨i, k, out, u6, hin, hkm, hfr, hgs⟩ := hinv
  obtain ⟨ff, hff, ha⟩ := hfr.frame
  clear hff hfr
  subst ha
  try dsimp only
  intro _ _ _ _
  have HG := hidden hgs.out.1
  have HD := hidden hgs.out.2
  clear hgs HS
  have HLO := hidden (show out.length ≤ 8589934592 by
    have h1 := congrArg List.length HD.out.eq
    have h2 := df_len_le a b
    rw [HN.out, HM.out] at h2
    rw [List.length_append] at h1
    omega)
  by_cases hend : i = n ∧ k = m
  · obtain ⟨rfl, rfl⟩ := hend
    have HE := hidden (show out = df a b by
      have := HD.out.eq
      rw [List.drop_of_length_le (by rw [HN.out]; exact Nat.le_refl _), List.drop_of_length_le (by rw [HM.out]; exact Nat.le_refl _), df_nil, List.map_nil, List.append_nil] at this
      exact this)
    go_wp2_with fail
    go_ret
    exact ⟨_, rfl, by rw [← HE.out]; exact OpsAt.of_owns HD.out.own, HK.out.bel.trans (HD.out.bel.mono HK.out.bel.size)⟩
  go_upto_region 5 with fail
  refine wp_cut (fun a' wx => FrD a' (.slice ao n cap) (.slice bo m cap2) (.slice (some ⟨w.heap.size, 0, none⟩) (n + 1) (n + 1)) u6 (.int .i64 i) (.int .i64 k) ∧ a'.tmps.getD 21 undef = .bool true ∧ Hid (KD w1 a b i k out u6 wx)) ?rest ?first
  case first =>
    intro J9 K9 hJ9 hK9
    by_cases h : i < n
    · clear hend
      go_wp2_with fail
      first | refine Met.intro (hJ9 _ _ ?_) | refine hK9 _ _ (Met.intro (hJ9 _ _ ?_))
      exact ⟨⟨rfl, rfl, rfl, rfl, rfl, rfl, rfl, rfl⟩, rfl, HD.out⟩
    · have hkm2 : k < m := by omega
      obtain rfl : i = n := by omega
      clear hend h
      go_wp2_with fail
      first | refine Met.intro (hJ9 _ _ ?_) | refine hK9 _ _ (Met.intro (hJ9 _ _ ?_))
      exact ⟨⟨rfl, rfl, rfl, rfl, rfl, rfl, rfl, rfl⟩, rfl, HD.out⟩
  case rest =>
  intro _ wc hinv
  obtain ⟨hfr, hv, HD1⟩ := hinv
  obtain ⟨ff3, hff, ha⟩ := hfr.frame
  rw [hff 21] at hv
  clear hff hfr
  subst ha
  try dsimp only
  rw [hv]
  clear hv
  clear HD
  go_upto_region 8 with fail
  refine wp_cut (fun a' wx => FrD a' (.slice ao n cap) (.slice bo m cap2) (.slice (some ⟨w.heap.size, 0, none⟩) (n + 1) (n + 1)) u6 (.int .i64 i) (.int .i64 k) ∧ a'.tmps.getD 32 undef = .bool (decide (C1 a b i k)) ∧ Hid (KD w1 a b i k out u6 wx)) ?rest ?first
  case first =>
    intro J9 K9 hJ9 hK9
    by_cases h : i < n
    · by_cases h2 : k < m
      · obtain ⟨x, hx⟩ : ∃ x, a[i]? = some x := ⟨a[i]'(by rw [HN.out]; exact h), List.getElem?_eq_getElem _⟩
        obtain ⟨y, hy⟩ : ∃ y, b[k]? = some y := ⟨b[k]'(by rw [HM.out]; exact h2), List.getElem?_eq_getElem _⟩
        obtain ⟨b1, o1, hao, hcp1, hb1, cx⟩ := HCA.out i x hx
        obtain ⟨b2, o2, hbo, hcp2, hb2, cy⟩ := HCB.out k y hy
        subst hao hbo
        have hB := HK.out.bel.trans (HD1.out.bel.mono HK.out.bel.size)
        have cx2 := (hB.cell (p := ⟨b1, o1 + i, none⟩) hb1).trans cx
        have cy2 := (hB.cell (p := ⟨b2, o2 + k, none⟩) hb2).trans cy
        have hK := HK.out.later HD1.out.bel
        have n1 := hK.slot i (by omega)
        have n2 := hK.slot (i + 1) (by omega)
        have n3 := hK.cell i k (by omega) (by omega)
        have n4 := hK.cell (i + 1) (k + 1) (by omega) (by omega)
        have HC := hidden (show C1 a b i k ↔ x = y ∧ lr a b i k = lr a b (i + 1) (k + 1) + 1 by
          unfold C1
          rw [hx, hy, HN.out, HM.out]
          simp [h, h2])
        have hr1 := lr_le a b (i + 1) (k + 1)
        rw [HN.out] at hr1
        obtain ⟨z, hz⟩ : ∃ z, lr a b i k = z := ⟨_, rfl⟩
        obtain ⟨r, hr⟩ : ∃ r, lr a b (i + 1) (k + 1) = r := ⟨_, rfl⟩
        rw [hz, hr] at HC
        rw [hr] at n4 hr1
        rw [hz] at n3
        clear hx hy cx cy hB hK hz hr hend
        by_cases hxy : x = y
        · subst hxy
          have hqq : (x == x) = true := by simp
          have HE := hidden (show decide (C1 a b i k) = (z == r + 1) by
            rw [Bool.eq_iff_iff, decide_eq_true_iff, HC.out]; simp)
          go_region
          first | refine Met.intro (hJ9 _ _ ?_) | refine hK9 _ _ (Met.intro (hJ9 _ _ ?_))
          exact ⟨⟨rfl, rfl, rfl, rfl, rfl, rfl, rfl, rfl⟩, by rw [HE.out]; rfl, by first | exact HD1.out | exact HD1.out.drew⟩
        · have hqq : (x == y) = false := by simpa using hxy
          have HE := hidden (show decide (C1 a b i k) = false from decide_eq_false fun e => hxy (HC.out.1 e).1)
          clear hxy
          go_region
          first | refine Met.intro (hJ9 _ _ ?_) | refine hK9 _ _ (Met.intro (hJ9 _ _ ?_))
          exact ⟨⟨rfl, rfl, rfl, rfl, rfl, rfl, rfl, rfl⟩, by rw [HE.out]; rfl, by first | exact HD1.out | exact HD1.out.drew⟩
      · obtain rfl : k = m := by omega
        have HE := hidden (show decide (C1 a b i k) = false from decide_eq_false fun e => by have := e.2.1; rw [HM.out] at this; omega)
        clear h2 hend
        go_region
        first | refine Met.intro (hJ9 _ _ ?_) | refine hK9 _ _ (Met.intro (hJ9 _ _ ?_))
        exact ⟨⟨rfl, rfl, rfl, rfl, rfl, rfl, rfl, rfl⟩, by rw [HE.out]; rfl, by first | exact HD1.out | exact HD1.out.drew⟩
    · obtain rfl : i = n := by omega
      have HE := hidden (show decide (C1 a b i k) = false from decide_eq_false fun e => by have := e.1; rw [HN.out] at this; omega)
      clear h hend
      go_region
      first | refine Met.intro (hJ9 _ _ ?_) | refine hK9 _ _ (Met.intro (hJ9 _ _ ?_))
      exact ⟨⟨rfl, rfl, rfl, rfl, rfl, rfl, rfl, rfl⟩, by rw [HE.out]; rfl, by first | exact HD1.out | exact HD1.out.drew⟩
  case rest =>
  intro _ wc hinv
  obtain ⟨hfr, hv, HD2⟩ := hinv
  obtain ⟨ff3, hff, ha⟩ := hfr.frame
  rw [hff 32] at hv
  clear hff hfr
  subst ha
  try dsimp only
  rw [hv]
  clear hv
  clear HD1
  by_cases hc1 : C1 a b i k
  · rw [decide_eq_true hc1]
    have hin2 : i < n := by have := hc1.1; rwa [HN.out] at this
    have hkm2 : k < m := by have := hc1.2.1; rwa [HM.out] at this
    obtain ⟨x, hx⟩ : ∃ x, a[i]? = some x := ⟨a[i]'(by rw [HN.out]; exact hin2), List.getElem?_eq_getElem _⟩
    obtain ⟨b1, o1, hao, hcp1, hb1, cx⟩ := HCA.out i x hx
    subst hao
    have cx2 := ((HK.out.bel.trans (HD2.out.bel.mono HK.out.bel.size)).cell (p := ⟨b1, o1 + i, none⟩) hb1).trans cx
    have HE := hidden (df_one hx hc1)
    clear cx hx hc1 hend
    have hbw := HD2.out.bel.size
    have hlo := HLO.out
    go_wp2_with (at_builtin; go_must (refine wpList_append_ops _ (by go_simp) (.tmp 74) (.tmp 80) rfl w1.heap.size _ (.slice (some ⟨wc.heap.size, 0, none⟩) 1 1) out [(2, 0, x)] rfl rfl (HD2.out.own.alloc _) (ops_oneAt _ _ _ _ _ (by simp)) (by simp; omega) (by simp; omega) ?_; intro v9 w9 hown9 hadd9))
    have HN9 := hidden (HD2.out.add hown9 hadd9 HE.out)
    clear hown9 hadd9
    refine Handed.intro ((n - (i + 1)) + (m - (k + 1))) (by have := HG.out; omega) ?_
    go_step
    exact ⟨i + 1, k + 1, _, _, by omega, by omega, ⟨rfl, rfl, rfl, rfl, rfl, rfl, rfl, rfl⟩, ⟨rfl, HN9.out⟩⟩
  rw [decide_eq_false hc1]
  have HC1 := hidden hc1
  clear hc1
  go_upto_region 12 with fail
  refine wp_cut (fun a' wx => FrD a' (.slice ao n cap) (.slice bo m cap2) (.slice (some ⟨w.heap.size, 0, none⟩) (n + 1) (n + 1)) u6 (.int .i64 i) (.int .i64 k) ∧ a'.tmps.getD 86 undef = .bool (decide (C2 a b i k)) ∧ Hid (KD w1 a b i k out u6 wx)) ?rest ?first
  case first =>
    intro J9 K9 hJ9 hK9
    by_cases h2 : k = m
    · subst h2
      have HE := hidden (show decide (C2 a b i k) = true from decide_eq_true (Or.inl HM.out.symm))
      clear hend
      go_region
      first | refine Met.intro (hJ9 _ _ ?_) | refine hK9 _ _ (Met.intro (hJ9 _ _ ?_))
      exact ⟨⟨rfl, rfl, rfl, rfl, rfl, rfl, rfl, rfl⟩, by rw [HE.out]; rfl, by first | exact HD2.out | exact HD2.out.drew⟩
    · have hk2 : k < m := by omega
      have hkb : ((k : Int) == m) = false := by simp; omega
      by_cases h : i < n
      · have hK := HK.out.later HD2.out.bel
        have n1 := hK.slot i (by omega)
        have n2 := hK.slot (i + 1) (by omega)
        have n3 := hK.cell (i + 1) k (by omega) (by omega)
        have n4 := hK.cell i (k + 1) (by omega) (by omega)
        obtain ⟨p, hp⟩ : ∃ p, lr a b (i + 1) k = p := ⟨_, rfl⟩
        obtain ⟨q, hq⟩ : ∃ q, lr a b i (k + 1) = q := ⟨_, rfl⟩
        have HE := hidden (show decide (C2 a b i k) = decide (q ≤ p) by
          rw [Bool.eq_iff_iff, decide_eq_true_iff, decide_eq_true_iff]
          unfold C2
          rw [HN.out, HM.out, hp, hq]
          constructor
          · rintro (e | ⟨_, e⟩)
            · exact absurd e h2
            · exact e
          · exact fun e => Or.inr ⟨h, e⟩)
        rw [hp] at n3
        rw [hq] at n4
        clear hK hp hq hend h2
        go_region
        first | refine Met.intro (hJ9 _ _ ?_) | refine hK9 _ _ (Met.intro (hJ9 _ _ ?_))
        exact ⟨⟨rfl, rfl, rfl, rfl, rfl, rfl, rfl, rfl⟩, by rw [HE.out]; first | rfl | simp, by first | exact HD2.out | exact HD2.out.drew⟩
      · obtain rfl : i = n := by omega
        have HE := hidden (show decide (C2 a b i k) = false from decide_eq_false fun e => by
          rcases e with e | ⟨e, _⟩
          · rw [HM.out] at e; exact h2 e
          · rw [HN.out] at e; omega)
        clear h h2 hend
        go_region
        first | refine Met.intro (hJ9 _ _ ?_) | refine hK9 _ _ (Met.intro (hJ9 _ _ ?_))
        exact ⟨⟨rfl, rfl, rfl, rfl, rfl, rfl, rfl, rfl⟩, by rw [HE.out]; rfl, by first | exact HD2.out | exact HD2.out.drew⟩
  case rest =>
  intro _ wc hinv
  obtain ⟨hfr, hv, HD3⟩ := hinv
  obtain ⟨ff3, hff, ha⟩ := hfr.frame
  rw [hff 86] at hv
  clear hff hfr
  subst ha
  try dsimp only
  rw [hv]
  clear hv
  clear HD2
  have hbw := HD3.out.bel.size
  have hlo := HLO.out
  by_cases hc2 : C2 a b i k
  · rw [decide_eq_true hc2]
    have hin2 : i < n := by
      rcases hc2 with h | ⟨h, _⟩
      · rw [HM.out] at h; omega
      · rwa [HN.out] at h
    obtain ⟨x, hx⟩ : ∃ x, a[i]? = some x := ⟨a[i]'(by rw [HN.out]; exact hin2), List.getElem?_eq_getElem _⟩
    obtain ⟨b1, o1, hao, hcp1, hb1, cx⟩ := HCA.out i x hx
    subst hao
    have cx2 := ((HK.out.bel.trans (HD3.out.bel.mono HK.out.bel.size)).cell (p := ⟨b1, o1 + i, none⟩) hb1).trans cx
    have HE := hidden (df_two hx HC1.out hc2)
    clear cx hx hc2 hend
    go_wp2_with (at_builtin; go_must (refine wpList_append_ops _ (by go_simp) (.tmp 116) (.tmp 122) rfl w1.heap.size _ (.slice (some ⟨wc.heap.size, 0, none⟩) 1 1) out [(3, 0, x)] rfl rfl (HD3.out.own.alloc _) (ops_oneAt _ _ _ _ _ (by simp)) (by simp; omega) (by simp; omega) ?_; intro v9 w9 hown9 hadd9))
    have HN9 := hidden (HD3.out.add hown9 hadd9 HE.out)
    clear hown9 hadd9
    refine Handed.intro ((n - (i + 1)) + (m - k)) (by have := HG.out; omega) ?_
    go_step
    exact ⟨i + 1, k, _, _, by omega, by omega, ⟨rfl, rfl, rfl, rfl, rfl, rfl, rfl, rfl⟩, ⟨rfl, HN9.out⟩⟩
  · rw [decide_eq_false hc2]
    have hkm2 : k < m := by
      have : ¬ k = b.length := fun e => hc2 (Or.inl e)
      rw [HM.out] at this; omega
    obtain ⟨y, hy⟩ : ∃ y, b[k]? = some y := ⟨b[k]'(by rw [HM.out]; exact hkm2), List.getElem?_eq_getElem _⟩
    obtain ⟨b2, o2, hbo, hcp2, hb2, cy⟩ := HCB.out k y hy
    subst hbo
    have cy2 := ((HK.out.bel.trans (HD3.out.bel.mono HK.out.bel.size)).cell (p := ⟨b2, o2 + k, none⟩) hb2).trans cy
    have HE := hidden (df_three (by rw [HN.out]; exact hin) hy HC1.out hc2)
    clear cy hy hc2 hend
    go_wp2_with (at_builtin; go_must (refine wpList_append_ops _ (by go_simp) (.tmp 22) (.tmp 28) rfl w1.heap.size _ (.slice (some ⟨wc.heap.size, 0, none⟩) 1 1) out [(4, 0, y)] rfl rfl (HD3.out.own.alloc _) (ops_oneAt _ _ _ _ _ (by simp)) (by simp; omega) (by simp; omega) ?_; intro v9 w9 hown9 hadd9))
    have HN9 := hidden (HD3.out.add hown9 hadd9 HE.out)
    clear hown9 hadd9
    refine Handed.intro ((n - i) + (m - (k + 1))) (by have := HG.out; omega) ?_
    go_step
    exact ⟨i, k + 1, _, _, by omega, by omega, ⟨rfl, rfl, rfl, rfl, rfl, rfl, rfl, rfl⟩, ⟨rfl, HN9.out⟩⟩

end Go.Proofs.Ytmbalnjobcgpkaa
