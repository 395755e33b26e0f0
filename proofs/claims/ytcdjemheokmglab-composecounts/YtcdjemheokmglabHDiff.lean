
/-
  What the document's own LcsLen and LcsDiff answer at any two rows of lines; conditions: how many lines they have.
-/
import Derived.Test.YtcdjemheokmglabAPlain
import Derived.Test.YtcdjemheokmglabADoneOpen
import Derived.Deep.LoopGhost
import Derived.Deep.CutBlock
import Derived.Deep.OwnRows
import Derived.BigRegion
import Derived.Test.YtcdjemheokmglabORow
namespace Go.Proofs.Ytcdjemheokmglab.Ol
open Go.Proofs.Ytcdjemheokmglab.Ln

def lcGo (f : List Tx → Nat) (x : Tx) : List Tx → Nat
  | [] => 0
  | y :: b => max (max (f (y :: b)) (lcGo f x b)) (if x = y then f b + 1 else 0)
/-- how long the longest common row is -/
def lc : List Tx → List Tx → Nat
  | [] => fun _ => 0
  | x :: a => lcGo (lc a) x
theorem lc_nil (b : List Tx) : lc [] b = 0 := rfl
theorem lc_nilr (a : List Tx) : lc a [] = 0 := by cases a <;> rfl
theorem lc_cons (x y : Tx) (a b : List Tx) : lc (x :: a) (y :: b) = max (max (lc a (y :: b)) (lc (x :: a) b)) (if x = y then lc a b + 1 else 0) := rfl
/-- no common row is longer -/
theorem lc_most (a : List Tx) : ∀ (b s : List Tx), s.Sublist a → s.Sublist b → s.length ≤ lc a b := by
  induction a with
  | nil => intro b s h _; rw [List.sublist_nil.1 h]; simp
  | cons x a ih =>
    intro b
    induction b with
    | nil => intro s _ h; rw [List.sublist_nil.1 h]; simp
    | cons y b ihb =>
      intro s h1 h2
      rw [lc_cons]
      cases h1 with
      | cons _ h1 => have := ih (y :: b) s h1 h2; omega
      | cons_cons _ h1 =>
        rename_i s'
        cases h2 with
        | cons _ h2 => have := ihb (x :: s') (h1.cons_cons x) h2; omega
        | cons_cons _ h2 => have := ih b s' h1 h2; rw [if_pos rfl]; simp; omega
/-- one common row is so long -/
theorem lc_some (a : List Tx) : ∀ b : List Tx, ∃ s : List Tx, s.Sublist a ∧ s.Sublist b ∧ s.length = lc a b := by
  induction a with
  | nil => intro b; exact ⟨[], List.Sublist.refl _, List.nil_sublist _, rfl⟩
  | cons x a ih =>
    intro b
    induction b with
    | nil => exact ⟨[], List.nil_sublist _, List.Sublist.refl _, rfl⟩
    | cons y b ihb =>
      rw [lc_cons]
      obtain ⟨s1, a1, b1, e1⟩ := ih (y :: b)
      obtain ⟨s2, a2, b2, e2⟩ := ihb
      obtain ⟨s3, a3, b3, e3⟩ := ih b
      by_cases h3 : max (lc a (y :: b)) (lc (x :: a) b) ≤ (if x = y then lc a b + 1 else 0)
      · by_cases hxy : x = y
        · subst hxy
          rw [if_pos rfl] at h3 ⊢
          exact ⟨x :: s3, a3.cons_cons x, b3.cons_cons x, by simp; omega⟩
        · rw [if_neg hxy] at h3 ⊢
          exact ⟨s1, a1.cons x, b1, by omega⟩
      · by_cases h4 : lc a (y :: b) ≤ lc (x :: a) b
        · exact ⟨s2, a2, b2.cons y, by omega⟩
        · exact ⟨s1, a1.cons x, b1, by omega⟩
theorem lc_of {a b : List Tx} {n : Nat} (h1 : ∃ s : List Tx, s.Sublist a ∧ s.Sublist b ∧ s.length = n) (h2 : ∀ s : List Tx, s.Sublist a → s.Sublist b → s.length ≤ n) : lc a b = n := by
  obtain ⟨s, ha, hb, rfl⟩ := h1
  obtain ⟨t, ta, tb, te⟩ := lc_some a b
  have := lc_most a b s ha hb
  have := h2 t ta tb
  omega
theorem lc_symm (a b : List Tx) : lc a b = lc b a := by
  obtain ⟨s, ha, hb, e⟩ := lc_some b a
  exact lc_of ⟨s, hb, ha, e⟩ (fun t h1 h2 => lc_most b a t h2 h1)
theorem lc_le (a b : List Tx) : lc a b ≤ a.length ∧ lc a b ≤ b.length := by
  obtain ⟨s, ha, hb, e⟩ := lc_some a b
  exact ⟨e ▸ ha.length_le, e ▸ hb.length_le⟩
theorem lc_sub {a s : List Tx} (h : s.Sublist a) : lc a s = s.length := lc_of ⟨s, h, List.Sublist.refl _, rfl⟩ (fun _ _ h2 => h2.length_le)
theorem lc_mono {a s : List Tx} (b : List Tx) (h : s.Sublist a) : lc s b ≤ lc a b := by
  obtain ⟨t, ha, hb, e⟩ := lc_some s b
  exact e ▸ lc_most a b t (ha.trans h) hb
theorem lc_self (a : List Tx) : lc a a = a.length := lc_sub (List.Sublist.refl _)
theorem lc_head (x : Tx) (a b : List Tx) : lc (x :: a) (x :: b) = lc a b + 1 := by
  refine lc_of ?_ ?_
  · obtain ⟨s, ha, hb, e⟩ := lc_some a b
    exact ⟨x :: s, ha.cons_cons x, hb.cons_cons x, by simp [e]⟩
  · intro s ha hb
    cases s with
    | nil => simp
    | cons z s =>
      have h1 : s.Sublist a := by simpa using ha.tail
      have h2 : s.Sublist b := by simpa using hb.tail
      have := lc_most a b s h1 h2
      simp; omega
theorem lc_front (c a b : List Tx) : lc (c ++ a) (c ++ b) = lc a b + c.length := by
  induction c with
  | nil => simp
  | cons x c ih => rw [List.cons_append, List.cons_append, lc_head, ih]; simp; omega
theorem lc_rev (a b : List Tx) : lc a.reverse b.reverse = lc a b := by
  obtain ⟨s, ha, hb, e⟩ := lc_some a b
  refine lc_of ⟨s.reverse, ha.reverse, hb.reverse, by simp [e]⟩ (fun t h1 h2 => ?_)
  have := lc_most a b t.reverse (by simpa using h1.reverse) (by simpa using h2.reverse)
  simpa using this
theorem lc_back (c a b : List Tx) : lc (a ++ c) (b ++ c) = lc a b + c.length := by
  rw [← lc_rev, List.reverse_append, List.reverse_append, lc_front, lc_rev, List.length_reverse]

def dfGo (f : List Tx → List Oq) (x : Tx) (a : List Tx) : List Tx → List Oq
  | [] => (3, 0, x) :: f []
  | y :: b => if x = y ∧ lc (x :: a) (y :: b) = lc a b + 1 then (2, 0, x) :: f b else if lc (x :: a) b ≤ lc a (y :: b) then (3, 0, x) :: f (y :: b) else (4, 0, y) :: dfGo f x a b
/-- the steps from one to the other -/
def df : List Tx → List Tx → List Oq
  | [] => fun b => b.map fun y => (4, 0, y)
  | x :: a => dfGo (df a) x a
theorem df_nil (b : List Tx) : df [] b = b.map fun y => (4, 0, y) := rfl
theorem df_nilr (x : Tx) (a : List Tx) : df (x :: a) [] = (3, 0, x) :: df a [] := rfl
theorem df_cons (x y : Tx) (a b : List Tx) : df (x :: a) (y :: b) = if x = y ∧ lc (x :: a) (y :: b) = lc a b + 1 then (2, 0, x) :: df a b else if lc (x :: a) b ≤ lc a (y :: b) then (3, 0, x) :: df a (y :: b) else (4, 0, y) :: df (x :: a) b := rfl
/-- induction on both rows, as the steps are told -/
theorem df_ind {P : List Tx → List Tx → Prop} (h0 : ∀ b, P [] b) (h1 : ∀ x a, P a [] → P (x :: a) []) (h2 : ∀ x y a b, P a (y :: b) → P (x :: a) b → P a b → P (x :: a) (y :: b)) : ∀ a b, P a b := by
  intro a
  induction a with
  | nil => exact h0
  | cons x a ih =>
    intro b
    induction b with
    | nil => exact h1 x a (ih [])
    | cons y b ihb => exact h2 x y a b (ih _) ihb (ih _)
/-- the texts of one side: all but those of one kind -/
def sdt (but : Int) (l : List Oq) : List Tx := (l.filter fun x => x.1 != but).map (·.2.2)
theorem sdt_app (but : Int) (a b : List Oq) : sdt but (a ++ b) = sdt but a ++ sdt but b := by simp [sdt]
theorem sdt_cons (but : Int) (x : Oq) (l : List Oq) : sdt but (x :: l) = (if x.1 = but then [] else [x.2.2]) ++ sdt but l := by
  unfold sdt
  by_cases h : x.1 = but
  · have : (x.1 != but) = false := by simp [h]
    simp [h]
  · have : (x.1 != but) = true := by simpa using h
    simp [this, h]
def kept2 (l : List Oq) : Nat := (l.filter fun x => x.1 == 2).length
theorem kept2_cons (x : Oq) (l : List Oq) : kept2 (x :: l) = (if x.1 = 2 then 1 else 0) + kept2 l := by
  unfold kept2
  by_cases h : x.1 = 2
  · simp [h]; omega
  · have : (x.1 == 2) = false := by simpa using h
    simp [this, h]
theorem sdt_ins (b : List Tx) : sdt 4 (b.map fun y => ((4, 0, y) : Oq)) = [] ∧ sdt 3 (b.map fun y => ((4, 0, y) : Oq)) = b ∧ kept2 (b.map fun y => ((4, 0, y) : Oq)) = 0 := by
  induction b with
  | nil => exact ⟨rfl, rfl, rfl⟩
  | cons y b ih =>
    obtain ⟨h1, h2, h3⟩ := ih
    rw [List.map_cons, sdt_cons, sdt_cons, kept2_cons, h1, h2, h3]
    simp
/-- the steps lead from one to the other, with as many kept as is the longest common row -/
theorem df_leads (a b : List Tx) : sdt 4 (df a b) = a ∧ sdt 3 (df a b) = b ∧ kept2 (df a b) = lc a b := by
  refine df_ind (P := fun a b => sdt 4 (df a b) = a ∧ sdt 3 (df a b) = b ∧ kept2 (df a b) = lc a b) ?_ ?_ ?_ a b
  · intro b
    exact sdt_ins b
  · rintro x a ⟨h1, h2, h3⟩
    rw [df_nilr, sdt_cons, sdt_cons, kept2_cons, h1, h2, h3]
    simp [lc_nilr]
  · rintro x y a b ⟨i1, i2, i3⟩ ⟨j1, j2, j3⟩ ⟨k1, k2, k3⟩
    rw [df_cons]
    by_cases h : x = y ∧ lc (x :: a) (y :: b) = lc a b + 1
    · rw [if_pos h, sdt_cons, sdt_cons, kept2_cons, k1, k2, k3, h.2, ← h.1]
      exact ⟨rfl, rfl, by simp; omega⟩
    · have hm : lc (x :: a) (y :: b) = max (lc a (y :: b)) (lc (x :: a) b) := by
        by_cases hxy : x = y
        · have h2 : ¬ lc (x :: a) (y :: b) = lc a b + 1 := fun e => h ⟨hxy, e⟩
          rw [lc_cons, if_pos hxy] at h2 ⊢
          omega
        · rw [lc_cons, if_neg hxy]; omega
      rw [if_neg h, hm]
      by_cases h2 : lc (x :: a) b ≤ lc a (y :: b)
      · rw [if_pos h2, sdt_cons, sdt_cons, kept2_cons, i1, i2, i3]
        exact ⟨rfl, rfl, by simp; omega⟩
      · rw [if_neg h2, sdt_cons, sdt_cons, kept2_cons, j1, j2, j3]
        exact ⟨rfl, rfl, by simp; omega⟩
/-- each step is a line of one of the rows -/
theorem df_kinds (a b : List Tx) : ∀ x ∈ df a b, (x.1 = 2 ∧ x.2.2 ∈ a ∧ x.2.2 ∈ b ∨ x.1 = 3 ∧ x.2.2 ∈ a ∨ x.1 = 4 ∧ x.2.2 ∈ b) ∧ x.2.1 = 0 := by
  refine df_ind (P := fun a b => ∀ x ∈ df a b, (x.1 = 2 ∧ x.2.2 ∈ a ∧ x.2.2 ∈ b ∨ x.1 = 3 ∧ x.2.2 ∈ a ∨ x.1 = 4 ∧ x.2.2 ∈ b) ∧ x.2.1 = 0) ?_ ?_ ?_ a b
  · intro b x hx
    obtain ⟨y, hy, rfl⟩ := List.mem_map.1 hx
    exact ⟨Or.inr (Or.inr ⟨rfl, hy⟩), rfl⟩
  · intro z a ih x hx
    rw [df_nilr] at hx
    rcases List.mem_cons.1 hx with rfl | hx
    · exact ⟨Or.inr (Or.inl ⟨rfl, by simp⟩), rfl⟩
    · obtain ⟨h, h0⟩ := ih x hx
      refine ⟨?_, h0⟩
      rcases h with ⟨h1, h2, h3⟩ | ⟨h1, h2⟩ | ⟨h1, h2⟩
      · exact Or.inl ⟨h1, by simp [h2], h3⟩
      · exact Or.inr (Or.inl ⟨h1, by simp [h2]⟩)
      · exact Or.inr (Or.inr ⟨h1, h2⟩)
  · intro z y a b i j k x hx
    rw [df_cons] at hx
    by_cases h : z = y ∧ lc (z :: a) (y :: b) = lc a b + 1
    · rw [if_pos h] at hx
      rcases List.mem_cons.1 hx with rfl | hx
      · exact ⟨Or.inl ⟨rfl, by simp, by simp [h.1]⟩, rfl⟩
      · obtain ⟨h, h0⟩ := k x hx
        refine ⟨?_, h0⟩
        rcases h with ⟨h1, h2, h3⟩ | ⟨h1, h2⟩ | ⟨h1, h2⟩
        · exact Or.inl ⟨h1, by simp [h2], by simp [h3]⟩
        · exact Or.inr (Or.inl ⟨h1, by simp [h2]⟩)
        · exact Or.inr (Or.inr ⟨h1, by simp [h2]⟩)
    · rw [if_neg h] at hx
      by_cases h2 : lc (z :: a) b ≤ lc a (y :: b)
      · rw [if_pos h2] at hx
        rcases List.mem_cons.1 hx with rfl | hx
        · exact ⟨Or.inr (Or.inl ⟨rfl, by simp⟩), rfl⟩
        · obtain ⟨h, h0⟩ := i x hx
          refine ⟨?_, h0⟩
          rcases h with ⟨h1, h2, h3⟩ | ⟨h1, h2⟩ | ⟨h1, h2⟩
          · exact Or.inl ⟨h1, by simp [h2], h3⟩
          · exact Or.inr (Or.inl ⟨h1, by simp [h2]⟩)
          · exact Or.inr (Or.inr ⟨h1, h2⟩)
      · rw [if_neg h2] at hx
        rcases List.mem_cons.1 hx with rfl | hx
        · exact ⟨Or.inr (Or.inr ⟨rfl, by simp⟩), rfl⟩
        · obtain ⟨h, h0⟩ := j x hx
          refine ⟨?_, h0⟩
          rcases h with ⟨h1, h2, h3⟩ | ⟨h1, h2⟩ | ⟨h1, h2⟩
          · exact Or.inl ⟨h1, h2, by simp [h3]⟩
          · exact Or.inr (Or.inl ⟨h1, h2⟩)
          · exact Or.inr (Or.inr ⟨h1, by simp [h2]⟩)
theorem sdt_len (but : Int) (l : List Oq) : (sdt but l).length + (l.filter fun x => x.1 == but).length = l.length := by
  unfold sdt
  rw [List.length_map]
  induction l with
  | nil => rfl
  | cons x l ih =>
    by_cases h : x.1 = but
    · have e1 : (x.1 != but) = false := by simp [h]
      have e2 : (x.1 == but) = true := by simp [h]
      simp only [List.filter_cons, e1, e2, List.length_cons]; simp; omega
    · have e1 : (x.1 != but) = true := by simpa using h
      have e2 : (x.1 == but) = false := by simpa using h
      simp only [List.filter_cons, e1, e2, List.length_cons]; simp; omega
/-- how many steps, and how many changes -/
theorem df_len (a b : List Tx) : (df a b).length = a.length + b.length - lc a b ∧ chs (df a b) = a.length + b.length - 2 * lc a b := by
  refine df_ind (P := fun a b => (df a b).length = a.length + b.length - lc a b ∧ chs (df a b) = a.length + b.length - 2 * lc a b) ?_ ?_ ?_ a b
  · intro b
    rw [df_nil, lc_nil]
    refine ⟨by simp, ?_⟩
    induction b with
    | nil => rfl
    | cons y b ih => rw [List.map_cons, show (((4, 0, y) : Oq) :: b.map fun y => ((4, 0, y) : Oq)) = [(4, 0, y)] ++ b.map fun y => ((4, 0, y) : Oq) from rfl, chs_app, ih]; simp [chs, chg]; omega
  · rintro x a ⟨h1, h2⟩
    rw [df_nilr, show (((3, 0, x) : Oq) :: df a []) = [(3, 0, x)] ++ df a [] from rfl, List.length_append, chs_app, h1, h2, lc_nilr, lc_nilr]
    simp [chs, chg]; omega
  · rintro x y a b ⟨i1, i2⟩ ⟨j1, j2⟩ ⟨k1, k2⟩
    rw [df_cons]
    have b1 := lc_le a (y :: b)
    have b2 := lc_le (x :: a) b
    have b3 := lc_le a b
    simp only [List.length_cons] at b1 b2 b3 i1 i2 j1 j2 ⊢
    by_cases h : x = y ∧ lc (x :: a) (y :: b) = lc a b + 1
    · rw [if_pos h, show (((2, 0, x) : Oq) :: df a b) = [(2, 0, x)] ++ df a b from rfl, List.length_append, chs_app, k1, k2, h.2]
      simp [chs, chg]; omega
    · have hm : lc (x :: a) (y :: b) = max (lc a (y :: b)) (lc (x :: a) b) := by
        by_cases hxy : x = y
        · have h2 : ¬ lc (x :: a) (y :: b) = lc a b + 1 := fun e => h ⟨hxy, e⟩
          rw [lc_cons, if_pos hxy] at h2 ⊢
          omega
        · rw [lc_cons, if_neg hxy]; omega
      rw [if_neg h, hm]
      by_cases h2 : lc (x :: a) b ≤ lc a (y :: b)
      · rw [if_pos h2, show (((3, 0, x) : Oq) :: df a (y :: b)) = [(3, 0, x)] ++ df a (y :: b) from rfl, List.length_append, chs_app, i1, i2]
        simp [chs, chg]; omega
      · rw [if_neg h2, show (((4, 0, y) : Oq) :: df (x :: a) b) = [(4, 0, y)] ++ df (x :: a) b from rfl, List.length_append, chs_app, j1, j2]
        simp [chs, chg]; omega
/-- from a row to itself all is kept -/
theorem df_self (a : List Tx) : df a a = a.map fun x => (2, 0, x) := by
  induction a with
  | nil => rfl
  | cons x a ih => rw [df_cons, if_pos ⟨rfl, lc_head x a a⟩, ih]; rfl
theorem df_all (a : List Tx) : df a [] = a.map fun x => (3, 0, x) := by
  induction a with
  | nil => rfl
  | cons x a ih => rw [df_nilr, ih]; rfl
/-- without common lines all goes, and then all comes -/
theorem df_none (a b : List Tx) (h : lc a b = 0) : df a b = df a [] ++ df [] b := by
  induction a with
  | nil => rfl
  | cons x a ih =>
    have h0 : lc a b = 0 := by have := lc_mono b (List.sublist_cons_self x a); omega
    cases b with
    | nil => rw [df_nil]; simp
    | cons y b =>
      rw [df_cons, if_neg (by omega), if_pos (by have := lc_mono (a := y :: b) (x :: a) (List.sublist_cons_self y b); rw [lc_symm b, lc_symm (y :: b)] at this; omega), ih h0, df_nilr]
      rfl

end Go.Proofs.Ytcdjemheokmglab.Ol

namespace Go.Proofs.Ytcdjemheokmglab
open Go.RowKit Go.Deep Go.Proofs.Ytcdjemheokmglab.Ln Go.Proofs.Ytcdjemheokmglab.Ol

theorem Try.infoInt : (Try.prog.info? 3).map (fun i => (i.zero, i.size, i.bytes)) = some (some (.int .i64 0), 1, 8) := by kernel_rfl
theorem rowIs_later {W W' : World} {b : Nat} {t : TypeId} {n : Nat} {f : Nat → Value} (h : W.rowIs b t n f) (hb : Below W.heap.size W W') : W'.rowIs b t n f := h.of_block (hb.block b h.lt)
/-- 'make([]T, n)', n a variable: a new block of n zeros -/
theorem wpList_make_at (w : World) {ops : Array Oper} {rest : List Oper} {o : Oper} {a : Act} {Q : Exit → Act → World → Prop}
    (hg : o.guard = none) (l c : Operand) (t : TypeId) (hop : o.op = Op.makeSlice t l c)
    (e : TypeId) (z : Value) (bytes : Nat) (ht : Try.prog.underlying t = some (.slice e)) (hinfo : (Try.prog.info? e).map (fun i => (i.zero, i.size, i.bytes)) = some (some z, 1, bytes)) (hz1 : z.cells = #[z])
    (L C : Int) (n : Nat) (hl : a.eval l = .int .i64 L) (hc : a.eval c = .int .i64 C) (hL : L = n) (hC : C = n) (hbytes : bytes * n ≤ 281474976710656) (h63 : n ≤ 9223372036854775807)
    (hK : ∀ w', w' = w.alloc (.cells (madeCells #[z] n) e) → wpList Try.prog ops Q rest (a.put o.dst (.slice (some ⟨w.heap.size, 0, none⟩) n n)) w') :
    wpList Try.prog ops Q (o :: rest) a w := by
  subst hL hC
  obtain ⟨i, hi, hz0, hs, hb⟩ := info_parts hinfo
  exact wpList_make_row w hg l c t hop e i z ht hi hz0 hs hz1 .i64 .i64 n hl hc (by rw [hb]; exact hbytes) h63 (hK _ rfl)
/-- the longest common row of what is left -/
def lr (a b : List Tx) (i k : Nat) : Int := lc (a.drop i) (b.drop k)
theorem lr_end (a b : List Tx) (i k : Nat) (h : a.length ≤ i ∨ b.length ≤ k) : lr a b i k = 0 := by
  unfold lr
  rcases h with h | h
  · rw [List.drop_of_length_le h]; rfl
  · rw [List.drop_of_length_le h, lc_nilr]; rfl
theorem lr_le (a b : List Tx) (i k : Nat) : 0 ≤ lr a b i k ∧ lr a b i k ≤ a.length := by
  unfold lr
  have := (lc_le (a.drop i) (b.drop k)).1
  rw [List.length_drop] at this
  omega
theorem lr_step {a b : List Tx} {i k : Nat} {x y : Tx} (hx : a[i]? = some x) (hy : b[k]? = some y) : lr a b i k = max (max (lr a b (i + 1) k) (lr a b i (k + 1))) (if x = y then lr a b (i + 1) (k + 1) + 1 else 0) := by
  obtain ⟨h1, e1⟩ := List.getElem?_eq_some_iff.1 hx
  obtain ⟨h2, e2⟩ := List.getElem?_eq_some_iff.1 hy
  unfold lr
  have ea : a.drop i = x :: a.drop (i + 1) := by rw [List.drop_eq_getElem_cons h1, e1]
  have eb : b.drop k = y :: b.drop (k + 1) := by rw [List.drop_eq_getElem_cons h2, e2]
  rw [ea, eb, lc_cons]
  split <;> omega
/-- what is reckoned so far: the rows from ni on, and of the row ahead the places from nk on -/
def sofarT (a b : List Tx) (ni nk j c : Nat) : Int := if ni ≤ j then lr a b j c else if j + 1 = ni ∧ nk ≤ c then lr a b j c else 0
theorem sofarT_start (a b : List Tx) (j c : Nat) (_hj : j ≤ a.length) (hc : c ≤ b.length) : sofarT a b a.length b.length j c = 0 := by
  unfold sofarT
  split
  · exact lr_end a b j c (Or.inl (by omega))
  · split
    · exact lr_end a b j c (Or.inr (by omega))
    · rfl
theorem sofarT_row (a b : List Tx) (ni j c : Nat) (hc : c ≤ b.length) : sofarT a b (ni + 1) 0 j c = sofarT a b ni b.length j c := by
  unfold sofarT
  by_cases h : ni + 1 ≤ j
  · rw [if_pos h, if_pos (by omega)]
  · rw [if_neg h]
    by_cases h2 : j = ni
    · rw [if_pos ⟨by omega, by omega⟩, if_pos (by omega)]
    · rw [if_neg (by omega), if_neg (by omega)]
      split
      · exact (lr_end a b j c (Or.inr (by omega))).symm
      · rfl
theorem sofarT_one (a b : List Tx) (i k j c : Nat) : (if j = i ∧ c = k then lr a b i k else sofarT a b (i + 1) (k + 1) j c) = sofarT a b (i + 1) k j c := by
  unfold sofarT
  by_cases h : j = i ∧ c = k
  · obtain ⟨rfl, rfl⟩ := h
    rw [if_pos ⟨rfl, rfl⟩, if_neg (by omega), if_pos ⟨rfl, by omega⟩]
  · rw [if_neg h]
    by_cases h1 : i + 1 ≤ j
    · rw [if_pos h1, if_pos h1]
    · rw [if_neg h1, if_neg h1]
      by_cases h2 : j + 1 = i + 1 ∧ k + 1 ≤ c
      · rw [if_pos h2, if_pos ⟨h2.1, by omega⟩]
      · rw [if_neg h2, if_neg (fun h3 => by
          have : j = i := by omega
          have : ¬ c = k := fun e => h ⟨this, e⟩
          omega)]
theorem sofarT_all (a b : List Tx) (k j c : Nat) : sofarT a b 0 k j c = lr a b j c := by unfold sofarT; rw [if_pos (Nat.zero_le _)]

/-- the frame, as far as it matters -/
structure FrT (a : Act) (s0 s1 s5 s7 s8 : Value) : Prop where
  size : a.tmps.size = 130
  e0 : a.tmps.getD 0 undef = s0
  e1 : a.tmps.getD 1 undef = s1
  e5 : a.tmps.getD 5 undef = s5
  e7 : a.tmps.getD 7 undef = s7
  e8 : a.tmps.getD 8 undef = s8
  marks : a.defers = []
theorem FrT_slots (tmps : Array Value) (h : tmps.size = 130) : tmps = #[tmps.getD 0 undef, tmps.getD 1 undef, tmps.getD 2 undef, tmps.getD 3 undef, tmps.getD 4 undef, tmps.getD 5 undef, tmps.getD 6 undef, tmps.getD 7 undef, tmps.getD 8 undef, tmps.getD 9 undef, tmps.getD 10 undef, tmps.getD 11 undef, tmps.getD 12 undef, tmps.getD 13 undef, tmps.getD 14 undef, tmps.getD 15 undef, tmps.getD 16 undef, tmps.getD 17 undef, tmps.getD 18 undef, tmps.getD 19 undef, tmps.getD 20 undef, tmps.getD 21 undef, tmps.getD 22 undef, tmps.getD 23 undef, tmps.getD 24 undef, tmps.getD 25 undef, tmps.getD 26 undef, tmps.getD 27 undef, tmps.getD 28 undef, tmps.getD 29 undef, tmps.getD 30 undef, tmps.getD 31 undef, tmps.getD 32 undef, tmps.getD 33 undef, tmps.getD 34 undef, tmps.getD 35 undef, tmps.getD 36 undef, tmps.getD 37 undef, tmps.getD 38 undef, tmps.getD 39 undef, tmps.getD 40 undef, tmps.getD 41 undef, tmps.getD 42 undef, tmps.getD 43 undef, tmps.getD 44 undef, tmps.getD 45 undef, tmps.getD 46 undef, tmps.getD 47 undef, tmps.getD 48 undef, tmps.getD 49 undef, tmps.getD 50 undef, tmps.getD 51 undef, tmps.getD 52 undef, tmps.getD 53 undef, tmps.getD 54 undef, tmps.getD 55 undef, tmps.getD 56 undef, tmps.getD 57 undef, tmps.getD 58 undef, tmps.getD 59 undef, tmps.getD 60 undef, tmps.getD 61 undef, tmps.getD 62 undef, tmps.getD 63 undef, tmps.getD 64 undef, tmps.getD 65 undef, tmps.getD 66 undef, tmps.getD 67 undef, tmps.getD 68 undef, tmps.getD 69 undef, tmps.getD 70 undef, tmps.getD 71 undef, tmps.getD 72 undef, tmps.getD 73 undef, tmps.getD 74 undef, tmps.getD 75 undef, tmps.getD 76 undef, tmps.getD 77 undef, tmps.getD 78 undef, tmps.getD 79 undef, tmps.getD 80 undef, tmps.getD 81 undef, tmps.getD 82 undef, tmps.getD 83 undef, tmps.getD 84 undef, tmps.getD 85 undef, tmps.getD 86 undef, tmps.getD 87 undef, tmps.getD 88 undef, tmps.getD 89 undef, tmps.getD 90 undef, tmps.getD 91 undef, tmps.getD 92 undef, tmps.getD 93 undef, tmps.getD 94 undef, tmps.getD 95 undef, tmps.getD 96 undef, tmps.getD 97 undef, tmps.getD 98 undef, tmps.getD 99 undef, tmps.getD 100 undef, tmps.getD 101 undef, tmps.getD 102 undef, tmps.getD 103 undef, tmps.getD 104 undef, tmps.getD 105 undef, tmps.getD 106 undef, tmps.getD 107 undef, tmps.getD 108 undef, tmps.getD 109 undef, tmps.getD 110 undef, tmps.getD 111 undef, tmps.getD 112 undef, tmps.getD 113 undef, tmps.getD 114 undef, tmps.getD 115 undef, tmps.getD 116 undef, tmps.getD 117 undef, tmps.getD 118 undef, tmps.getD 119 undef, tmps.getD 120 undef, tmps.getD 121 undef, tmps.getD 122 undef, tmps.getD 123 undef, tmps.getD 124 undef, tmps.getD 125 undef, tmps.getD 126 undef, tmps.getD 127 undef, tmps.getD 128 undef, tmps.getD 129 undef] := by
  have h1 : tmps.toList = (List.range 130).map (fun i => tmps.getD i undef) := by
    apply List.ext_getElem
    · simp [h]
    · intro i h2 h3
      simp at h2
      simp [h2]
  calc tmps = ⟨tmps.toList⟩ := rfl
    _ = ⟨(List.range 130).map (fun i => tmps.getD i undef)⟩ := by rw [h1]
    _ = _ := rfl
theorem FrT.frame {a : Act} {s0 s1 s5 s7 s8 : Value} (h : FrT a s0 s1 s5 s7 s8) : ∃ f : Nat → Value, (∀ i, a.tmps.getD i undef = f i) ∧ a = { tmps := #[s0, s1, f 2, f 3, f 4, s5, f 6, s7, s8, f 9, f 10, f 11, f 12, f 13, f 14, f 15, f 16, f 17, f 18, f 19, f 20, f 21, f 22, f 23, f 24, f 25, f 26, f 27, f 28, f 29, f 30, f 31, f 32, f 33, f 34, f 35, f 36, f 37, f 38, f 39, f 40, f 41, f 42, f 43, f 44, f 45, f 46, f 47, f 48, f 49, f 50, f 51, f 52, f 53, f 54, f 55, f 56, f 57, f 58, f 59, f 60, f 61, f 62, f 63, f 64, f 65, f 66, f 67, f 68, f 69, f 70, f 71, f 72, f 73, f 74, f 75, f 76, f 77, f 78, f 79, f 80, f 81, f 82, f 83, f 84, f 85, f 86, f 87, f 88, f 89, f 90, f 91, f 92, f 93, f 94, f 95, f 96, f 97, f 98, f 99, f 100, f 101, f 102, f 103, f 104, f 105, f 106, f 107, f 108, f 109, f 110, f 111, f 112, f 113, f 114, f 115, f 116, f 117, f 118, f 119, f 120, f 121, f 122, f 123, f 124, f 125, f 126, f 127, f 128, f 129], defers := [] } := by
  refine ⟨fun i => a.tmps.getD i undef, fun _ => rfl, ?_⟩
  obtain ⟨tmps, defers⟩ := a
  have h1 := FrT_slots tmps h.size
  rw [h.e0, h.e1, h.e5, h.e7, h.e8] at h1
  have h2 := h.marks
  simp only at h2
  rw [h2]
  exact congrArg (fun t => Act.mk t []) h1

/-- the table's own row, when c rows are made -/
def topv (T m c : Nat) : Nat → Value := fun j => if j < c then .slice (some ⟨T + 1 + j, 0, none⟩) (m + 1) (m + 1) else .slice none 0 0
/-- the table with one more place reckoned so far as z -/
def putT (a b : List Tx) (i k : Nat) (z : Int) (j c : Nat) : Int := if j = i ∧ c = k then z else sofarT a b (i + 1) (k + 1) j c
theorem putT_far (a b : List Tx) (i k j c : Nat) (z : Int) (h : i + 1 ≤ j ∨ j = i ∧ k + 1 ≤ c) : putT a b i k z j c = lr a b j c := by
  unfold putT sofarT
  rw [if_neg (by omega)]
  by_cases h1 : i + 1 ≤ j
  · rw [if_pos h1]
  · rw [if_neg h1, if_pos (by omega)]
theorem putT_at (a b : List Tx) (i k : Nat) (z : Int) : putT a b i k z i k = z := by unfold putT; rw [if_pos ⟨rfl, rfl⟩]
/-- the cells that a place is reckoned of -/
structure Near (T n m i k : Nat) (z p q r : Int) (W : World) : Prop where
  t0 : W.cell? ⟨T, i, none⟩ = some (.slice (some ⟨T + 1 + i, 0, none⟩) (m + 1) (m + 1))
  t1 : W.cell? ⟨T, i + 1, none⟩ = some (.slice (some ⟨T + 1 + (i + 1), 0, none⟩) (m + 1) (m + 1))
  c0 : W.cell? ⟨T + 1 + i, k, none⟩ = some (.int .i64 z)
  c1 : W.cell? ⟨T + 1 + (i + 1), k, none⟩ = some (.int .i64 p)
  c2 : W.cell? ⟨T + 1 + i, k + 1, none⟩ = some (.int .i64 q)
  c3 : W.cell? ⟨T + 1 + (i + 1), k + 1, none⟩ = some (.int .i64 r)
  th : W.frozen? ⟨T + 1 + i, k, none⟩ = false
end Go.Proofs.Ytcdjemheokmglab

namespace Go.Proofs.Ytcdjemheokmglab
open Go.RowKit Go.Deep Go.Proofs.Ytcdjemheokmglab.Ln Go.Proofs.Ytcdjemheokmglab.Ol

/-- what lies in memory while the steps are told -/
structure KD (w1 : World) (a b : List Tx) (i k : Nat) (out : List Oq) (vo : Value) (W : World) : Prop where
  bel : Below w1.heap.size w1 W
  own : W.ownsRow w1.heap.size 30 3 vo out.length (cellsO out)
  eq : out ++ df (a.drop i) (b.drop k) = df a b
theorem KD.drew {w1 : World} {a b : List Tx} {i k : Nat} {out : List Oq} {vo : Value} {W : World} (h : KD w1 a b i k out vo W) : KD w1 a b i k out vo W.drew :=
  ⟨h.bel.trans ((Below.refl _ W).drew.mono h.bel.size), owns_later h.own (Below.refl _ W).drew, h.eq⟩
theorem KD.add {w1 : World} {a b : List Tx} {i k i' k' : Nat} {out : List Oq} {vo v' : Value} {x : Oq} {W W' : World} (h : KD w1 a b i k out vo W) (ho : W'.ownsRow w1.heap.size 30 3 v' (out ++ [x]).length (cellsO (out ++ [x]))) (ha : Adds (W.alloc (opO x.1 x.2.1 x.2.2)) W' vo v') (he : df (a.drop i) (b.drop k) = x :: df (a.drop i') (b.drop k')) : KD w1 a b i' k' (out ++ [x]) v' W' :=
  ⟨adds_bel (bel_alloc h.bel _) (by have := h.bel.size; simp; omega) (h.own.alloc _) ha, ho, by rw [← h.eq, he]; simp⟩
theorem df_len_le (a b : List Tx) : (df a b).length ≤ a.length + b.length := by have := (df_len a b).1; omega
/-- the first case: both lines are one, and the common row is one longer with them -/
def C1 (a b : List Tx) (i k : Nat) : Prop := i < a.length ∧ k < b.length ∧ a[i]? = b[k]? ∧ lr a b i k = lr a b (i + 1) (k + 1) + 1
/-- the second case -/
def C2 (a b : List Tx) (i k : Nat) : Prop := k = b.length ∨ i < a.length ∧ lr a b i (k + 1) ≤ lr a b (i + 1) k
theorem df_one {a b : List Tx} {i k : Nat} {x : Tx} (hx : a[i]? = some x) (h : C1 a b i k) : df (a.drop i) (b.drop k) = (2, 0, x) :: df (a.drop (i + 1)) (b.drop (k + 1)) := by
  obtain ⟨h1, h2, h3, h4⟩ := h
  rw [hx] at h3
  obtain ⟨_, e1⟩ := List.getElem?_eq_some_iff.1 hx
  obtain ⟨_, e2⟩ := List.getElem?_eq_some_iff.1 h3.symm
  unfold lr at h4
  rw [List.drop_eq_getElem_cons h1, List.drop_eq_getElem_cons h2, e1, e2] at h4 ⊢
  rw [df_cons, if_pos ⟨rfl, by omega⟩]
theorem df_two {a b : List Tx} {i k : Nat} {x : Tx} (hx : a[i]? = some x) (h : ¬ C1 a b i k) (h2 : C2 a b i k) : df (a.drop i) (b.drop k) = (3, 0, x) :: df (a.drop (i + 1)) (b.drop k) := by
  obtain ⟨h1, e1⟩ := List.getElem?_eq_some_iff.1 hx
  rw [List.drop_eq_getElem_cons h1, e1]
  by_cases hk : b.length ≤ k
  · rw [List.drop_of_length_le hk]; rfl
  · have hk : k < b.length := by omega
    rcases h2 with h2 | ⟨_, h2⟩
    · omega
    · have h3 : ¬ (a[i]? = b[k]? ∧ lr a b i k = lr a b (i + 1) (k + 1) + 1) := fun e => h ⟨h1, hk, e⟩
      unfold lr at h2 h3
      rw [List.drop_eq_getElem_cons hk] at h2 h3 ⊢
      rw [List.drop_eq_getElem_cons h1, e1] at h2 h3
      rw [hx, List.getElem?_eq_getElem hk] at h3
      rw [df_cons, if_neg (fun e => h3 ⟨by rw [e.1], by have := e.2; omega⟩), if_pos (by omega)]
theorem df_three {a b : List Tx} {i k : Nat} {y : Tx} (hi : i ≤ a.length) (hy : b[k]? = some y) (h : ¬ C1 a b i k) (h2 : ¬ C2 a b i k) : df (a.drop i) (b.drop k) = (4, 0, y) :: df (a.drop i) (b.drop (k + 1)) := by
  obtain ⟨hk, e2⟩ := List.getElem?_eq_some_iff.1 hy
  by_cases hi2 : i = a.length
  · subst hi2
    rw [List.drop_length, df_nil, df_nil, List.drop_eq_getElem_cons hk, e2]; rfl
  · have h1 : i < a.length := by omega
    have h3 : ¬ (a[i]? = b[k]? ∧ lr a b i k = lr a b (i + 1) (k + 1) + 1) := fun e => h ⟨h1, hk, e⟩
    have h4 : ¬ lr a b i (k + 1) ≤ lr a b (i + 1) k := fun e => h2 (Or.inr ⟨h1, e⟩)
    unfold lr at h4 h3
    rw [List.drop_eq_getElem_cons hk, e2] at h4 h3 ⊢
    rw [List.drop_eq_getElem_cons h1] at h4 h3 ⊢
    rw [hy, List.getElem?_eq_getElem h1] at h3
    rw [df_cons, if_neg (fun e => h3 ⟨by rw [e.1], by have := e.2; omega⟩), if_neg (by omega)]

/-- the frame, as far as it matters -/
structure FrD (a : Act) (s0 s1 s5 s6 s7 s8 : Value) : Prop where
  size : a.tmps.size = 127
  e0 : a.tmps.getD 0 undef = s0
  e1 : a.tmps.getD 1 undef = s1
  e5 : a.tmps.getD 5 undef = s5
  e6 : a.tmps.getD 6 undef = s6
  e7 : a.tmps.getD 7 undef = s7
  e8 : a.tmps.getD 8 undef = s8
  marks : a.defers = []
theorem FrD_slots (tmps : Array Value) (h : tmps.size = 127) : tmps = #[tmps.getD 0 undef, tmps.getD 1 undef, tmps.getD 2 undef, tmps.getD 3 undef, tmps.getD 4 undef, tmps.getD 5 undef, tmps.getD 6 undef, tmps.getD 7 undef, tmps.getD 8 undef, tmps.getD 9 undef, tmps.getD 10 undef, tmps.getD 11 undef, tmps.getD 12 undef, tmps.getD 13 undef, tmps.getD 14 undef, tmps.getD 15 undef, tmps.getD 16 undef, tmps.getD 17 undef, tmps.getD 18 undef, tmps.getD 19 undef, tmps.getD 20 undef, tmps.getD 21 undef, tmps.getD 22 undef, tmps.getD 23 undef, tmps.getD 24 undef, tmps.getD 25 undef, tmps.getD 26 undef, tmps.getD 27 undef, tmps.getD 28 undef, tmps.getD 29 undef, tmps.getD 30 undef, tmps.getD 31 undef, tmps.getD 32 undef, tmps.getD 33 undef, tmps.getD 34 undef, tmps.getD 35 undef, tmps.getD 36 undef, tmps.getD 37 undef, tmps.getD 38 undef, tmps.getD 39 undef, tmps.getD 40 undef, tmps.getD 41 undef, tmps.getD 42 undef, tmps.getD 43 undef, tmps.getD 44 undef, tmps.getD 45 undef, tmps.getD 46 undef, tmps.getD 47 undef, tmps.getD 48 undef, tmps.getD 49 undef, tmps.getD 50 undef, tmps.getD 51 undef, tmps.getD 52 undef, tmps.getD 53 undef, tmps.getD 54 undef, tmps.getD 55 undef, tmps.getD 56 undef, tmps.getD 57 undef, tmps.getD 58 undef, tmps.getD 59 undef, tmps.getD 60 undef, tmps.getD 61 undef, tmps.getD 62 undef, tmps.getD 63 undef, tmps.getD 64 undef, tmps.getD 65 undef, tmps.getD 66 undef, tmps.getD 67 undef, tmps.getD 68 undef, tmps.getD 69 undef, tmps.getD 70 undef, tmps.getD 71 undef, tmps.getD 72 undef, tmps.getD 73 undef, tmps.getD 74 undef, tmps.getD 75 undef, tmps.getD 76 undef, tmps.getD 77 undef, tmps.getD 78 undef, tmps.getD 79 undef, tmps.getD 80 undef, tmps.getD 81 undef, tmps.getD 82 undef, tmps.getD 83 undef, tmps.getD 84 undef, tmps.getD 85 undef, tmps.getD 86 undef, tmps.getD 87 undef, tmps.getD 88 undef, tmps.getD 89 undef, tmps.getD 90 undef, tmps.getD 91 undef, tmps.getD 92 undef, tmps.getD 93 undef, tmps.getD 94 undef, tmps.getD 95 undef, tmps.getD 96 undef, tmps.getD 97 undef, tmps.getD 98 undef, tmps.getD 99 undef, tmps.getD 100 undef, tmps.getD 101 undef, tmps.getD 102 undef, tmps.getD 103 undef, tmps.getD 104 undef, tmps.getD 105 undef, tmps.getD 106 undef, tmps.getD 107 undef, tmps.getD 108 undef, tmps.getD 109 undef, tmps.getD 110 undef, tmps.getD 111 undef, tmps.getD 112 undef, tmps.getD 113 undef, tmps.getD 114 undef, tmps.getD 115 undef, tmps.getD 116 undef, tmps.getD 117 undef, tmps.getD 118 undef, tmps.getD 119 undef, tmps.getD 120 undef, tmps.getD 121 undef, tmps.getD 122 undef, tmps.getD 123 undef, tmps.getD 124 undef, tmps.getD 125 undef, tmps.getD 126 undef] := by
  have h1 : tmps.toList = (List.range 127).map (fun i => tmps.getD i undef) := by
    apply List.ext_getElem
    · simp [h]
    · intro i h2 h3
      simp at h2
      simp [h2]
  calc tmps = ⟨tmps.toList⟩ := rfl
    _ = ⟨(List.range 127).map (fun i => tmps.getD i undef)⟩ := by rw [h1]
    _ = _ := rfl
theorem FrD.frame {a : Act} {s0 s1 s5 s6 s7 s8 : Value} (h : FrD a s0 s1 s5 s6 s7 s8) : ∃ f : Nat → Value, (∀ i, a.tmps.getD i undef = f i) ∧ a = { tmps := #[s0, s1, f 2, f 3, f 4, s5, s6, s7, s8, f 9, f 10, f 11, f 12, f 13, f 14, f 15, f 16, f 17, f 18, f 19, f 20, f 21, f 22, f 23, f 24, f 25, f 26, f 27, f 28, f 29, f 30, f 31, f 32, f 33, f 34, f 35, f 36, f 37, f 38, f 39, f 40, f 41, f 42, f 43, f 44, f 45, f 46, f 47, f 48, f 49, f 50, f 51, f 52, f 53, f 54, f 55, f 56, f 57, f 58, f 59, f 60, f 61, f 62, f 63, f 64, f 65, f 66, f 67, f 68, f 69, f 70, f 71, f 72, f 73, f 74, f 75, f 76, f 77, f 78, f 79, f 80, f 81, f 82, f 83, f 84, f 85, f 86, f 87, f 88, f 89, f 90, f 91, f 92, f 93, f 94, f 95, f 96, f 97, f 98, f 99, f 100, f 101, f 102, f 103, f 104, f 105, f 106, f 107, f 108, f 109, f 110, f 111, f 112, f 113, f 114, f 115, f 116, f 117, f 118, f 119, f 120, f 121, f 122, f 123, f 124, f 125, f 126], defers := [] } := by
  refine ⟨fun i => a.tmps.getD i undef, fun _ => rfl, ?_⟩
  obtain ⟨tmps, defers⟩ := a
  have h1 := FrD_slots tmps h.size
  rw [h.e0, h.e1, h.e5, h.e6, h.e7, h.e8] at h1
  have h2 := h.marks
  simp only at h2
  rw [h2]
  exact congrArg (fun t => Act.mk t []) h1

end Go.Proofs.Ytcdjemheokmglab
