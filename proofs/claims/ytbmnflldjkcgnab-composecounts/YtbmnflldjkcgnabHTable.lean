
/-
  What the document's own table answers at any two rows of lines; conditions: how many lines they have.
-/
import Derived.Test.YtbmnflldjkcgnabHPlain
import Derived.Test.YtbmnflldjkcgnabADoneOpen
import Derived.Deep.LoopGhost
import Derived.Deep.CutBlock
import Derived.Deep.OwnRows
import Derived.BigRegion
namespace Go.Proofs.Ytbmnflldjkcgnab
open Go.RowKit Go.Deep Go.Proofs.Ytbmnflldjkcgnab.Ln Go.Proofs.Ytbmnflldjkcgnab.Ol

theorem Try.infoInt : (Try.prog.info? 3).map (fun i => (i.zero, i.size, i.bytes)) = some (some (.int .i64 0), 1, 8) := by kernel_rfl
theorem rowIs_later {W W' : World} {b : Nat} {t : TypeId} {n : Nat} {f : Nat → Value} (h : W.rowIs b t n f) (hb : Below W.heap.size W W') : W'.rowIs b t n f := h.of_block (hb.block b h.lt)
/-- 'make([]T, n)', n a variable: a new block of n zeros -/
theorem wpList_make_at (w : World) {ops : Array Oper} {rest : List Oper} {o : Oper} {a : Act} {Q : Exit → Act → World → Prop}
    (hg : o.guard = none) (l c : Operand) (t : TypeId) (hop : o.op = Op.makeSlice t l c)
    (e : TypeId) (z : Value) (bytes : Nat) (ht : Try.prog.underlying t = some (.slice e)) (hinfo : (Try.prog.info? e).map (fun i => (i.zero, i.size, i.bytes)) = some (some z, 1, bytes)) (hz1 : z.cells = #[z])
    (L C : Int) (n : Nat) (hl : a.eval l = .int .i64 L) (hc : a.eval c = .int .i64 C) (hL : L = n) (hC : C = n) (hbytes : bytes * n ≤ 281474976710656) (h63 : n ≤ 9223372036854775807)
    (hK : ∀ w', w' = w.alloc (.cells (madeCells #[z] n) e) → wpList Try.prog ops Q rest (a.put o.dst (.slice (some ⟨w.heap.size, 0, none⟩) n n)) w') :
    wpList Try.prog ops Q (o :: rest) a w := by
  subst hL hC
  obtain ⟨i, hi, hz0, hs, hb⟩ := info_parts hinfo
  exact wpList_make_row w hg l c t hop e i z ht hi hz0 hs hz1 .i64 .i64 n hl hc (by rw [hb]; exact hbytes) h63 (hK _ rfl)
/-- the longest common row of what is left -/
def lr (a b : List Tx) (i k : Nat) : Int := lc (a.drop i) (b.drop k)
theorem lr_end (a b : List Tx) (i k : Nat) (h : a.length ≤ i ∨ b.length ≤ k) : lr a b i k = 0 := by
  unfold lr
  rcases h with h | h
  · rw [List.drop_of_length_le h]; rfl
  · rw [List.drop_of_length_le h, lc_nilr]; rfl
theorem lr_le (a b : List Tx) (i k : Nat) : 0 ≤ lr a b i k ∧ lr a b i k ≤ a.length := by
  unfold lr
  have := (lc_le (a.drop i) (b.drop k)).1
  rw [List.length_drop] at this
  omega
theorem lr_step {a b : List Tx} {i k : Nat} {x y : Tx} (hx : a[i]? = some x) (hy : b[k]? = some y) : lr a b i k = max (max (lr a b (i + 1) k) (lr a b i (k + 1))) (if x = y then lr a b (i + 1) (k + 1) + 1 else 0) := by
  obtain ⟨h1, e1⟩ := List.getElem?_eq_some_iff.1 hx
  obtain ⟨h2, e2⟩ := List.getElem?_eq_some_iff.1 hy
  unfold lr
  have ea : a.drop i = x :: a.drop (i + 1) := by rw [List.drop_eq_getElem_cons h1, e1]
  have eb : b.drop k = y :: b.drop (k + 1) := by rw [List.drop_eq_getElem_cons h2, e2]
  rw [ea, eb, lc_cons]
  split <;> omega
/-- what is reckoned so far: the rows from ni on, and of the row ahead the places from nk on -/
def sofarT (a b : List Tx) (ni nk j c : Nat) : Int := if ni ≤ j then lr a b j c else if j + 1 = ni ∧ nk ≤ c then lr a b j c else 0
theorem sofarT_start (a b : List Tx) (j c : Nat) (_hj : j ≤ a.length) (hc : c ≤ b.length) : sofarT a b a.length b.length j c = 0 := by
  unfold sofarT
  split
  · exact lr_end a b j c (Or.inl (by omega))
  · split
    · exact lr_end a b j c (Or.inr (by omega))
    · rfl
theorem sofarT_row (a b : List Tx) (ni j c : Nat) (hc : c ≤ b.length) : sofarT a b (ni + 1) 0 j c = sofarT a b ni b.length j c := by
  unfold sofarT
  by_cases h : ni + 1 ≤ j
  · rw [if_pos h, if_pos (by omega)]
  · rw [if_neg h]
    by_cases h2 : j = ni
    · rw [if_pos ⟨by omega, by omega⟩, if_pos (by omega)]
    · rw [if_neg (by omega), if_neg (by omega)]
      split
      · exact (lr_end a b j c (Or.inr (by omega))).symm
      · rfl
theorem sofarT_one (a b : List Tx) (i k j c : Nat) : (if j = i ∧ c = k then lr a b i k else sofarT a b (i + 1) (k + 1) j c) = sofarT a b (i + 1) k j c := by
  unfold sofarT
  by_cases h : j = i ∧ c = k
  · obtain ⟨rfl, rfl⟩ := h
    rw [if_pos ⟨rfl, rfl⟩, if_neg (by omega), if_pos ⟨rfl, by omega⟩]
  · rw [if_neg h]
    by_cases h1 : i + 1 ≤ j
    · rw [if_pos h1, if_pos h1]
    · rw [if_neg h1, if_neg h1]
      by_cases h2 : j + 1 = i + 1 ∧ k + 1 ≤ c
      · rw [if_pos h2, if_pos ⟨h2.1, by omega⟩]
      · rw [if_neg h2, if_neg (fun h3 => by
          have : j = i := by omega
          have : ¬ c = k := fun e => h ⟨this, e⟩
          omega)]
theorem sofarT_all (a b : List Tx) (k j c : Nat) : sofarT a b 0 k j c = lr a b j c := by unfold sofarT; rw [if_pos (Nat.zero_le _)]

/-- the frame, as far as it matters -/
structure FrT (a : Act) (s0 s1 s5 s7 s8 : Value) : Prop where
  size : a.tmps.size = 130
  e0 : a.tmps.getD 0 undef = s0
  e1 : a.tmps.getD 1 undef = s1
  e5 : a.tmps.getD 5 undef = s5
  e7 : a.tmps.getD 7 undef = s7
  e8 : a.tmps.getD 8 undef = s8
  marks : a.defers = []
theorem FrT_slots (tmps : Array Value) (h : tmps.size = 130) : tmps = #[tmps.getD 0 undef, tmps.getD 1 undef, tmps.getD 2 undef, tmps.getD 3 undef, tmps.getD 4 undef, tmps.getD 5 undef, tmps.getD 6 undef, tmps.getD 7 undef, tmps.getD 8 undef, tmps.getD 9 undef, tmps.getD 10 undef, tmps.getD 11 undef, tmps.getD 12 undef, tmps.getD 13 undef, tmps.getD 14 undef, tmps.getD 15 undef, tmps.getD 16 undef, tmps.getD 17 undef, tmps.getD 18 undef, tmps.getD 19 undef, tmps.getD 20 undef, tmps.getD 21 undef, tmps.getD 22 undef, tmps.getD 23 undef, tmps.getD 24 undef, tmps.getD 25 undef, tmps.getD 26 undef, tmps.getD 27 undef, tmps.getD 28 undef, tmps.getD 29 undef, tmps.getD 30 undef, tmps.getD 31 undef, tmps.getD 32 undef, tmps.getD 33 undef, tmps.getD 34 undef, tmps.getD 35 undef, tmps.getD 36 undef, tmps.getD 37 undef, tmps.getD 38 undef, tmps.getD 39 undef, tmps.getD 40 undef, tmps.getD 41 undef, tmps.getD 42 undef, tmps.getD 43 undef, tmps.getD 44 undef, tmps.getD 45 undef, tmps.getD 46 undef, tmps.getD 47 undef, tmps.getD 48 undef, tmps.getD 49 undef, tmps.getD 50 undef, tmps.getD 51 undef, tmps.getD 52 undef, tmps.getD 53 undef, tmps.getD 54 undef, tmps.getD 55 undef, tmps.getD 56 undef, tmps.getD 57 undef, tmps.getD 58 undef, tmps.getD 59 undef, tmps.getD 60 undef, tmps.getD 61 undef, tmps.getD 62 undef, tmps.getD 63 undef, tmps.getD 64 undef, tmps.getD 65 undef, tmps.getD 66 undef, tmps.getD 67 undef, tmps.getD 68 undef, tmps.getD 69 undef, tmps.getD 70 undef, tmps.getD 71 undef, tmps.getD 72 undef, tmps.getD 73 undef, tmps.getD 74 undef, tmps.getD 75 undef, tmps.getD 76 undef, tmps.getD 77 undef, tmps.getD 78 undef, tmps.getD 79 undef, tmps.getD 80 undef, tmps.getD 81 undef, tmps.getD 82 undef, tmps.getD 83 undef, tmps.getD 84 undef, tmps.getD 85 undef, tmps.getD 86 undef, tmps.getD 87 undef, tmps.getD 88 undef, tmps.getD 89 undef, tmps.getD 90 undef, tmps.getD 91 undef, tmps.getD 92 undef, tmps.getD 93 undef, tmps.getD 94 undef, tmps.getD 95 undef, tmps.getD 96 undef, tmps.getD 97 undef, tmps.getD 98 undef, tmps.getD 99 undef, tmps.getD 100 undef, tmps.getD 101 undef, tmps.getD 102 undef, tmps.getD 103 undef, tmps.getD 104 undef, tmps.getD 105 undef, tmps.getD 106 undef, tmps.getD 107 undef, tmps.getD 108 undef, tmps.getD 109 undef, tmps.getD 110 undef, tmps.getD 111 undef, tmps.getD 112 undef, tmps.getD 113 undef, tmps.getD 114 undef, tmps.getD 115 undef, tmps.getD 116 undef, tmps.getD 117 undef, tmps.getD 118 undef, tmps.getD 119 undef, tmps.getD 120 undef, tmps.getD 121 undef, tmps.getD 122 undef, tmps.getD 123 undef, tmps.getD 124 undef, tmps.getD 125 undef, tmps.getD 126 undef, tmps.getD 127 undef, tmps.getD 128 undef, tmps.getD 129 undef] := by
  have h1 : tmps.toList = (List.range 130).map (fun i => tmps.getD i undef) := by
    apply List.ext_getElem
    · simp [h]
    · intro i h2 h3
      simp at h2
      simp [h2]
  calc tmps = ⟨tmps.toList⟩ := rfl
    _ = ⟨(List.range 130).map (fun i => tmps.getD i undef)⟩ := by rw [h1]
    _ = _ := rfl
theorem FrT.frame {a : Act} {s0 s1 s5 s7 s8 : Value} (h : FrT a s0 s1 s5 s7 s8) : ∃ f : Nat → Value, (∀ i, a.tmps.getD i undef = f i) ∧ a = { tmps := #[s0, s1, f 2, f 3, f 4, s5, f 6, s7, s8, f 9, f 10, f 11, f 12, f 13, f 14, f 15, f 16, f 17, f 18, f 19, f 20, f 21, f 22, f 23, f 24, f 25, f 26, f 27, f 28, f 29, f 30, f 31, f 32, f 33, f 34, f 35, f 36, f 37, f 38, f 39, f 40, f 41, f 42, f 43, f 44, f 45, f 46, f 47, f 48, f 49, f 50, f 51, f 52, f 53, f 54, f 55, f 56, f 57, f 58, f 59, f 60, f 61, f 62, f 63, f 64, f 65, f 66, f 67, f 68, f 69, f 70, f 71, f 72, f 73, f 74, f 75, f 76, f 77, f 78, f 79, f 80, f 81, f 82, f 83, f 84, f 85, f 86, f 87, f 88, f 89, f 90, f 91, f 92, f 93, f 94, f 95, f 96, f 97, f 98, f 99, f 100, f 101, f 102, f 103, f 104, f 105, f 106, f 107, f 108, f 109, f 110, f 111, f 112, f 113, f 114, f 115, f 116, f 117, f 118, f 119, f 120, f 121, f 122, f 123, f 124, f 125, f 126, f 127, f 128, f 129], defers := [] } := by
  refine ⟨fun i => a.tmps.getD i undef, fun _ => rfl, ?_⟩
  obtain ⟨tmps, defers⟩ := a
  have h1 := FrT_slots tmps h.size
  rw [h.e0, h.e1, h.e5, h.e7, h.e8] at h1
  have h2 := h.marks
  simp only at h2
  rw [h2]
  exact congrArg (fun t => Act.mk t []) h1

/-- the table's own row, when c rows are made -/
def topv (T m c : Nat) : Nat → Value := fun j => if j < c then .slice (some ⟨T + 1 + j, 0, none⟩) (m + 1) (m + 1) else .slice none 0 0
/-- the table with one more place reckoned so far as z -/
def putT (a b : List Tx) (i k : Nat) (z : Int) (j c : Nat) : Int := if j = i ∧ c = k then z else sofarT a b (i + 1) (k + 1) j c
theorem putT_far (a b : List Tx) (i k j c : Nat) (z : Int) (h : i + 1 ≤ j ∨ j = i ∧ k + 1 ≤ c) : putT a b i k z j c = lr a b j c := by
  unfold putT sofarT
  rw [if_neg (by omega)]
  by_cases h1 : i + 1 ≤ j
  · rw [if_pos h1]
  · rw [if_neg h1, if_pos (by omega)]
theorem putT_at (a b : List Tx) (i k : Nat) (z : Int) : putT a b i k z i k = z := by unfold putT; rw [if_pos ⟨rfl, rfl⟩]
/-- the cells that a place is reckoned of -/
structure Near (T n m i k : Nat) (z p q r : Int) (W : World) : Prop where
  t0 : W.cell? ⟨T, i, none⟩ = some (.slice (some ⟨T + 1 + i, 0, none⟩) (m + 1) (m + 1))
  t1 : W.cell? ⟨T, i + 1, none⟩ = some (.slice (some ⟨T + 1 + (i + 1), 0, none⟩) (m + 1) (m + 1))
  c0 : W.cell? ⟨T + 1 + i, k, none⟩ = some (.int .i64 z)
  c1 : W.cell? ⟨T + 1 + (i + 1), k, none⟩ = some (.int .i64 p)
  c2 : W.cell? ⟨T + 1 + i, k + 1, none⟩ = some (.int .i64 q)
  c3 : W.cell? ⟨T + 1 + (i + 1), k + 1, none⟩ = some (.int .i64 r)
  th : W.frozen? ⟨T + 1 + i, k, none⟩ = false
end Go.Proofs.Ytbmnflldjkcgnab
