
/-
  What the document's own table answers at any two rows of lines; conditions: how many lines they have.
-/
import Derived.Test.YtdjdiaadflggfaaHPlain
import Derived.Test.YtdjdiaadflggfaaADoneOpen
import Derived.Deep.LoopGhost
import Derived.Deep.CutBlock
import Derived.Deep.OwnRows
import Derived.BigRegion
namespace Go.Proofs.Ytdjdiaadflggfaa
open Go.RowKit Go.Deep Go.Proofs.Ytdjdiaadflggfaa.Ln Go.Proofs.Ytdjdiaadflggfaa.Ol

theorem Try.infoInt : (Try.prog.info? 3).map (fun i => (i.zero, i.size, i.bytes)) = some (some (.int .i64 0), 1, 8) := by kernel_rfl
theorem Try.infoInts : (Try.prog.info? 32).map (fun i => (i.zero, i.size, i.bytes)) = some (some (.slice none 0 0), 1, 24) := by kernel_rfl
/-- a table lies in memory: its rows, a block each -/
structure KT (w : World) (T n m : Nat) (F : Nat → Nat → Int) (W : World) : Prop where
  bel : Below w.heap.size w W
  top : W.rowIs T 32 (n + 1) (fun j => .slice (some ⟨T + 1 + j, 0, none⟩) (m + 1) (m + 1))
  row : ∀ j, j ≤ n → W.rowIs (T + 1 + j) 3 (m + 1) (fun c => .int .i64 (F j c))
theorem rowIs_later {W W' : World} {b : Nat} {t : TypeId} {n : Nat} {f : Nat → Value} (h : W.rowIs b t n f) (hb : Below W.heap.size W W') : W'.rowIs b t n f := h.of_block (hb.block b h.lt)
theorem KT.later {w : World} {T n m : Nat} {F : Nat → Nat → Int} {W W' : World} (h : KT w T n m F W) (hb : Below W.heap.size W W') : KT w T n m F W' :=
  ⟨h.bel.trans (hb.mono h.bel.size), rowIs_later h.top hb, fun j hj => rowIs_later (h.row j hj) hb⟩
theorem KT.drew {w : World} {T n m : Nat} {F : Nat → Nat → Int} {W : World} (h : KT w T n m F W) : KT w T n m F W.drew := h.later (Below.refl _ W).drew
theorem KT.congr {w : World} {T n m : Nat} {F G : Nat → Nat → Int} {W : World} (h : KT w T n m F W) (e : ∀ j c, j ≤ n → c ≤ m → F j c = G j c) : KT w T n m G W :=
  ⟨h.bel, h.top, fun j hj => (h.row j hj).congr fun c hc => by rw [e j c hj (by omega)]⟩
theorem KT.set {w : World} {T n m : Nat} {F : Nat → Nat → Int} {W : World} (h : KT w T n m F W) (hT : w.heap.size ≤ T) (i k : Nat) (z : Int) : KT w T n m (fun j c => if j = i ∧ c = k then z else F j c) (W.setCell ⟨T + 1 + i, k, none⟩ (.int .i64 z)) := by
  refine ⟨bel_set h.bel (by omega), h.top.setOther (by show T ≠ T + 1 + i; omega) _, fun j hj => ?_⟩
  by_cases e : j = i
  · subst e
    refine ((h.row j hj).set k (.int .i64 z)).congr fun c _ => ?_
    by_cases e2 : c = k
    · rw [if_pos e2, if_pos ⟨rfl, e2⟩]
    · rw [if_neg e2, if_neg (fun h => e2 h.2)]
  · refine ((h.row j hj).setOther (by show T + 1 + j ≠ T + 1 + i; omega) _).congr fun c _ => by rw [if_neg (fun h => e h.1)]
theorem KT.slot {w : World} {T n m : Nat} {F : Nat → Nat → Int} {W : World} (h : KT w T n m F W) (j : Nat) (hj : j ≤ n) : W.cell? ⟨T, j, none⟩ = some (.slice (some ⟨T + 1 + j, 0, none⟩) (m + 1) (m + 1)) := h.top.cell (by omega)
theorem KT.cell {w : World} {T n m : Nat} {F : Nat → Nat → Int} {W : World} (h : KT w T n m F W) (j c : Nat) (hj : j ≤ n) (hc : c ≤ m) : W.cell? ⟨T + 1 + j, c, none⟩ = some (.int .i64 (F j c)) := (h.row j hj).cell (by omega)
theorem KT.thaw {w : World} {T n m : Nat} {F : Nat → Nat → Int} {W : World} (h : KT w T n m F W) (j c : Nat) (hj : j ≤ n) : W.frozen? ⟨T + 1 + j, c, none⟩ = false := (h.row j hj).frozen c
/-- 'make([]T, n)', n a variable: a new block of n zeros -/
theorem wpList_make_at (w : World) {ops : Array Oper} {rest : List Oper} {o : Oper} {a : Act} {Q : Exit → Act → World → Prop}
    (hg : o.guard = none) (l c : Operand) (t : TypeId) (hop : o.op = Op.makeSlice t l c)
    (e : TypeId) (z : Value) (bytes : Nat) (ht : Try.prog.underlying t = some (.slice e)) (hinfo : (Try.prog.info? e).map (fun i => (i.zero, i.size, i.bytes)) = some (some z, 1, bytes)) (hz1 : z.cells = #[z])
    (L C : Int) (n : Nat) (hl : a.eval l = .int .i64 L) (hc : a.eval c = .int .i64 C) (hL : L = n) (hC : C = n) (hbytes : bytes * n ≤ 281474976710656) (h63 : n ≤ 9223372036854775807)
    (hK : ∀ w', w' = w.alloc (.cells (madeCells #[z] n) e) → wpList Try.prog ops Q rest (a.put o.dst (.slice (some ⟨w.heap.size, 0, none⟩) n n)) w') :
    wpList Try.prog ops Q (o :: rest) a w := by
  subst hL hC
  obtain ⟨i, hi, hz0, hs, hb⟩ := info_parts hinfo
  exact wpList_make_row w hg l c t hop e i z ht hi hz0 hs hz1 .i64 .i64 n hl hc (by rw [hb]; exact hbytes) h63 (hK _ rfl)
/-- the longest common row of what is left -/
def lr (a b : List Tx) (i k : Nat) : Int := lc (a.drop i) (b.drop k)
theorem lr_end (a b : List Tx) (i k : Nat) (h : a.length ≤ i ∨ b.length ≤ k) : lr a b i k = 0 := by
  unfold lr
  rcases h with h | h
  · rw [List.drop_of_length_le h]; rfl
  · rw [List.drop_of_length_le h, lc_nilr]; rfl
theorem lr_le (a b : List Tx) (i k : Nat) : 0 ≤ lr a b i k ∧ lr a b i k ≤ a.length := by
  unfold lr
  have := (lc_le (a.drop i) (b.drop k)).1
  rw [List.length_drop] at this
  omega
theorem lr_step {a b : List Tx} {i k : Nat} {x y : Tx} (hx : a[i]? = some x) (hy : b[k]? = some y) : lr a b i k = max (max (lr a b (i + 1) k) (lr a b i (k + 1))) (if x = y then lr a b (i + 1) (k + 1) + 1 else 0) := by
  obtain ⟨h1, e1⟩ := List.getElem?_eq_some_iff.1 hx
  obtain ⟨h2, e2⟩ := List.getElem?_eq_some_iff.1 hy
  unfold lr
  have ea : a.drop i = x :: a.drop (i + 1) := by rw [List.drop_eq_getElem_cons h1, e1]
  have eb : b.drop k = y :: b.drop (k + 1) := by rw [List.drop_eq_getElem_cons h2, e2]
  rw [ea, eb, lc_cons]
  split <;> omega
/-- what is reckoned so far: the rows from ni on, and of the row ahead the places from nk on -/
def sofarT (a b : List Tx) (ni nk j c : Nat) : Int := if ni ≤ j then lr a b j c else if j + 1 = ni ∧ nk ≤ c then lr a b j c else 0
theorem sofarT_start (a b : List Tx) (j c : Nat) (_hj : j ≤ a.length) (hc : c ≤ b.length) : sofarT a b a.length b.length j c = 0 := by
  unfold sofarT
  split
  · exact lr_end a b j c (Or.inl (by omega))
  · split
    · exact lr_end a b j c (Or.inr (by omega))
    · rfl
theorem sofarT_row (a b : List Tx) (ni j c : Nat) (hc : c ≤ b.length) : sofarT a b (ni + 1) 0 j c = sofarT a b ni b.length j c := by
  unfold sofarT
  by_cases h : ni + 1 ≤ j
  · rw [if_pos h, if_pos (by omega)]
  · rw [if_neg h]
    by_cases h2 : j = ni
    · rw [if_pos ⟨by omega, by omega⟩, if_pos (by omega)]
    · rw [if_neg (by omega), if_neg (by omega)]
      split
      · exact (lr_end a b j c (Or.inr (by omega))).symm
      · rfl
theorem sofarT_one (a b : List Tx) (i k j c : Nat) : (if j = i ∧ c = k then lr a b i k else sofarT a b (i + 1) (k + 1) j c) = sofarT a b (i + 1) k j c := by
  unfold sofarT
  by_cases h : j = i ∧ c = k
  · obtain ⟨rfl, rfl⟩ := h
    rw [if_pos ⟨rfl, rfl⟩, if_neg (by omega), if_pos ⟨rfl, by omega⟩]
  · rw [if_neg h]
    by_cases h1 : i + 1 ≤ j
    · rw [if_pos h1, if_pos h1]
    · rw [if_neg h1, if_neg h1]
      by_cases h2 : j + 1 = i + 1 ∧ k + 1 ≤ c
      · rw [if_pos h2, if_pos ⟨h2.1, by omega⟩]
      · rw [if_neg h2, if_neg (fun h3 => by
          have : j = i := by omega
          have : ¬ c = k := fun e => h ⟨this, e⟩
          omega)]
theorem sofarT_all (a b : List Tx) (k j c : Nat) : sofarT a b 0 k j c = lr a b j c := by unfold sofarT; rw [if_pos (Nat.zero_le _)]

/-- the frame, as far as it matters -/
structure FrT (a : Act) (s0 s1 s5 s7 s8 : Value) : Prop where
  size : a.tmps.size = 130
  e0 : a.tmps.getD 0 undef = s0
  e1 : a.tmps.getD 1 undef = s1
  e5 : a.tmps.getD 5 undef = s5
  e7 : a.tmps.getD 7 undef = s7
  e8 : a.tmps.getD 8 undef = s8
  marks : a.defers = []
theorem FrT_slots (tmps : Array Value) (h : tmps.size = 130) : tmps = #[tmps.getD 0 undef, tmps.getD 1 undef, tmps.getD 2 undef, tmps.getD 3 undef, tmps.getD 4 undef, tmps.getD 5 undef, tmps.getD 6 undef, tmps.getD 7 undef, tmps.getD 8 undef, tmps.getD 9 undef, tmps.getD 10 undef, tmps.getD 11 undef, tmps.getD 12 undef, tmps.getD 13 undef, tmps.getD 14 undef, tmps.getD 15 undef, tmps.getD 16 undef, tmps.getD 17 undef, tmps.getD 18 undef, tmps.getD 19 undef, tmps.getD 20 undef, tmps.getD 21 undef, tmps.getD 22 undef, tmps.getD 23 undef, tmps.getD 24 undef, tmps.getD 25 undef, tmps.getD 26 undef, tmps.getD 27 undef, tmps.getD 28 undef, tmps.getD 29 undef, tmps.getD 30 undef, tmps.getD 31 undef, tmps.getD 32 undef, tmps.getD 33 undef, tmps.getD 34 undef, tmps.getD 35 undef, tmps.getD 36 undef, tmps.getD 37 undef, tmps.getD 38 undef, tmps.getD 39 undef, tmps.getD 40 undef, tmps.getD 41 undef, tmps.getD 42 undef, tmps.getD 43 undef, tmps.getD 44 undef, tmps.getD 45 undef, tmps.getD 46 undef, tmps.getD 47 undef, tmps.getD 48 undef, tmps.getD 49 undef, tmps.getD 50 undef, tmps.getD 51 undef, tmps.getD 52 undef, tmps.getD 53 undef, tmps.getD 54 undef, tmps.getD 55 undef, tmps.getD 56 undef, tmps.getD 57 undef, tmps.getD 58 undef, tmps.getD 59 undef, tmps.getD 60 undef, tmps.getD 61 undef, tmps.getD 62 undef, tmps.getD 63 undef, tmps.getD 64 undef, tmps.getD 65 undef, tmps.getD 66 undef, tmps.getD 67 undef, tmps.getD 68 undef, tmps.getD 69 undef, tmps.getD 70 undef, tmps.getD 71 undef, tmps.getD 72 undef, tmps.getD 73 undef, tmps.getD 74 undef, tmps.getD 75 undef, tmps.getD 76 undef, tmps.getD 77 undef, tmps.getD 78 undef, tmps.getD 79 undef, tmps.getD 80 undef, tmps.getD 81 undef, tmps.getD 82 undef, tmps.getD 83 undef, tmps.getD 84 undef, tmps.getD 85 undef, tmps.getD 86 undef, tmps.getD 87 undef, tmps.getD 88 undef, tmps.getD 89 undef, tmps.getD 90 undef, tmps.getD 91 undef, tmps.getD 92 undef, tmps.getD 93 undef, tmps.getD 94 undef, tmps.getD 95 undef, tmps.getD 96 undef, tmps.getD 97 undef, tmps.getD 98 undef, tmps.getD 99 undef, tmps.getD 100 undef, tmps.getD 101 undef, tmps.getD 102 undef, tmps.getD 103 undef, tmps.getD 104 undef, tmps.getD 105 undef, tmps.getD 106 undef, tmps.getD 107 undef, tmps.getD 108 undef, tmps.getD 109 undef, tmps.getD 110 undef, tmps.getD 111 undef, tmps.getD 112 undef, tmps.getD 113 undef, tmps.getD 114 undef, tmps.getD 115 undef, tmps.getD 116 undef, tmps.getD 117 undef, tmps.getD 118 undef, tmps.getD 119 undef, tmps.getD 120 undef, tmps.getD 121 undef, tmps.getD 122 undef, tmps.getD 123 undef, tmps.getD 124 undef, tmps.getD 125 undef, tmps.getD 126 undef, tmps.getD 127 undef, tmps.getD 128 undef, tmps.getD 129 undef] := by
  have h1 : tmps.toList = (List.range 130).map (fun i => tmps.getD i undef) := by
    apply List.ext_getElem
    · simp [h]
    · intro i h2 h3
      simp at h2
      simp [h2]
  calc tmps = ⟨tmps.toList⟩ := rfl
    _ = ⟨(List.range 130).map (fun i => tmps.getD i undef)⟩ := by rw [h1]
    _ = _ := rfl
theorem FrT.frame {a : Act} {s0 s1 s5 s7 s8 : Value} (h : FrT a s0 s1 s5 s7 s8) : ∃ f : Nat → Value, (∀ i, a.tmps.getD i undef = f i) ∧ a = { tmps := #[s0, s1, f 2, f 3, f 4, s5, f 6, s7, s8, f 9, f 10, f 11, f 12, f 13, f 14, f 15, f 16, f 17, f 18, f 19, f 20, f 21, f 22, f 23, f 24, f 25, f 26, f 27, f 28, f 29, f 30, f 31, f 32, f 33, f 34, f 35, f 36, f 37, f 38, f 39, f 40, f 41, f 42, f 43, f 44, f 45, f 46, f 47, f 48, f 49, f 50, f 51, f 52, f 53, f 54, f 55, f 56, f 57, f 58, f 59, f 60, f 61, f 62, f 63, f 64, f 65, f 66, f 67, f 68, f 69, f 70, f 71, f 72, f 73, f 74, f 75, f 76, f 77, f 78, f 79, f 80, f 81, f 82, f 83, f 84, f 85, f 86, f 87, f 88, f 89, f 90, f 91, f 92, f 93, f 94, f 95, f 96, f 97, f 98, f 99, f 100, f 101, f 102, f 103, f 104, f 105, f 106, f 107, f 108, f 109, f 110, f 111, f 112, f 113, f 114, f 115, f 116, f 117, f 118, f 119, f 120, f 121, f 122, f 123, f 124, f 125, f 126, f 127, f 128, f 129], defers := [] } := by
  refine ⟨fun i => a.tmps.getD i undef, fun _ => rfl, ?_⟩
  obtain ⟨tmps, defers⟩ := a
  have h1 := FrT_slots tmps h.size
  rw [h.e0, h.e1, h.e5, h.e7, h.e8] at h1
  have h2 := h.marks
  simp only at h2
  rw [h2]
  exact congrArg (fun t => Act.mk t []) h1

/-- the table's own row, when c rows are made -/
def topv (T m c : Nat) : Nat → Value := fun j => if j < c then .slice (some ⟨T + 1 + j, 0, none⟩) (m + 1) (m + 1) else .slice none 0 0
structure GA (w : World) (n m c : Nat) (W : World) : Prop where
  bel : Below w.heap.size w W
  size : W.heap.size = w.heap.size + 1 + c
  top : W.rowIs w.heap.size 32 (n + 1) (topv w.heap.size m c)
  done : ∀ j, j < c → W.rowIs (w.heap.size + 1 + j) 3 (m + 1) (fun _ => .int .i64 0)
theorem ga_start (w : World) (n m : Nat) : GA w n m 0 (w.alloc (.cells (madeCells #[.slice none 0 0] (n + 1)) 32)) :=
  ⟨bel_alloc (Below.refl _ _) _, by simp, (World.rowIs_made w _ (n + 1) 32).congr (fun j _ => by simp [topv]), fun j hj => absurd hj (Nat.not_lt_zero _)⟩
theorem ga_next {w W W' : World} {n m c : Nat} (h : GA w n m c W) (e : W' = W.alloc (.cells (madeCells #[.int .i64 0] (m + 1)) 3)) : GA w n m (c + 1) (W'.setCell ⟨w.heap.size, c, none⟩ (.slice (some ⟨w.heap.size + 1 + c, 0, none⟩) (m + 1) (m + 1))) := by
  subst e
  have hnew := World.rowIs_made W (.int .i64 0) (m + 1) 3
  rw [h.size] at hnew
  refine ⟨bel_set (bel_alloc h.bel _) (Nat.le_refl _), by simp [World.setCell, h.size]; omega, ((h.top.alloc _).set c _).congr (fun j _ => ?_), fun j hj => ?_⟩
  · simp only [topv]
    by_cases e : j = c
    · subst e; simp
    · rw [if_neg e]
      by_cases hlt : j < c
      · rw [if_pos hlt, if_pos (by omega)]
      · rw [if_neg hlt, if_neg (by omega)]
  · by_cases e : j = c
    · subst e; exact hnew.setOther (by show w.heap.size + 1 + j ≠ w.heap.size; omega) _
    · exact ((h.done j (by omega)).alloc _).setOther (by show w.heap.size + 1 + j ≠ w.heap.size; omega) _
theorem ga_end {w W : World} {a b : List Tx} {n m : Nat} (hn : a.length = n) (hm : b.length = m) (h : GA w n m (n + 1) W) : KT w w.heap.size n m (sofarT a b n m) W := by
  subst hn hm
  refine ⟨h.bel, h.top.congr (fun j hj => by simp only [topv]; rw [if_pos hj]), fun j hj => (h.done j (by omega)).congr (fun c hc => ?_)⟩
  rw [sofarT_start a b j c hj (by omega)]
/-- the table with one more place reckoned so far as z -/
def putT (a b : List Tx) (i k : Nat) (z : Int) (j c : Nat) : Int := if j = i ∧ c = k then z else sofarT a b (i + 1) (k + 1) j c
theorem kt_put {w W : World} {a b : List Tx} {n m i k : Nat} {z z' : Int} (h : KT w w.heap.size n m (putT a b i k z) W) : KT w w.heap.size n m (putT a b i k z') (W.setCell ⟨w.heap.size + 1 + i, k, none⟩ (.int .i64 z')) := by
  refine (h.set (Nat.le_refl _) i k z').congr fun j c _ _ => ?_
  unfold putT
  split <;> rfl
theorem kt_first {w W : World} {a b : List Tx} {n m i k : Nat} (h : KT w w.heap.size n m (sofarT a b (i + 1) (k + 1)) W) : KT w w.heap.size n m (putT a b i k 0) W := by
  refine h.congr fun j c _ _ => ?_
  unfold putT
  by_cases e : j = i ∧ c = k
  · rw [if_pos e]; unfold sofarT; rw [if_neg (by omega), if_neg (by omega)]
  · rw [if_neg e]
theorem kt_last {w W : World} {a b : List Tx} {n m i k : Nat} {z : Int} (hz : lr a b i k = z) (h : KT w w.heap.size n m (putT a b i k z) W) : KT w w.heap.size n m (sofarT a b (i + 1) k) W :=
  h.congr fun j c _ _ => by rw [← sofarT_one a b i k j c, ← hz]; rfl
theorem putT_far (a b : List Tx) (i k j c : Nat) (z : Int) (h : i + 1 ≤ j ∨ j = i ∧ k + 1 ≤ c) : putT a b i k z j c = lr a b j c := by
  unfold putT sofarT
  rw [if_neg (by omega)]
  by_cases h1 : i + 1 ≤ j
  · rw [if_pos h1]
  · rw [if_neg h1, if_pos (by omega)]
theorem putT_at (a b : List Tx) (i k : Nat) (z : Int) : putT a b i k z i k = z := by unfold putT; rw [if_pos ⟨rfl, rfl⟩]
/-- the cells that a place is reckoned of -/
structure Near (T n m i k : Nat) (z p q r : Int) (W : World) : Prop where
  t0 : W.cell? ⟨T, i, none⟩ = some (.slice (some ⟨T + 1 + i, 0, none⟩) (m + 1) (m + 1))
  t1 : W.cell? ⟨T, i + 1, none⟩ = some (.slice (some ⟨T + 1 + (i + 1), 0, none⟩) (m + 1) (m + 1))
  c0 : W.cell? ⟨T + 1 + i, k, none⟩ = some (.int .i64 z)
  c1 : W.cell? ⟨T + 1 + (i + 1), k, none⟩ = some (.int .i64 p)
  c2 : W.cell? ⟨T + 1 + i, k + 1, none⟩ = some (.int .i64 q)
  c3 : W.cell? ⟨T + 1 + (i + 1), k + 1, none⟩ = some (.int .i64 r)
  th : W.frozen? ⟨T + 1 + i, k, none⟩ = false
theorem near_of {w W : World} {a b : List Tx} {n m i k : Nat} {z p q r : Int} (h : KT w w.heap.size n m (putT a b i k z) W) (hi : i < n) (hk : k < m) (hp : lr a b (i + 1) k = p) (hq : lr a b i (k + 1) = q) (hr : lr a b (i + 1) (k + 1) = r) : Near w.heap.size n m i k z p q r W := by
  refine ⟨h.slot i (by omega), h.slot (i + 1) (by omega), ?_, ?_, ?_, ?_, h.thaw i k (by omega)⟩
  · have := h.cell i k (by omega) (by omega); rwa [putT_at] at this
  · have := h.cell (i + 1) k (by omega) (by omega); rwa [putT_far _ _ _ _ _ _ _ (Or.inl (by omega)), hp] at this
  · have := h.cell i (k + 1) (by omega) (by omega); rwa [putT_far _ _ _ _ _ _ _ (Or.inr ⟨rfl, by omega⟩), hq] at this
  · have := h.cell (i + 1) (k + 1) (by omega) (by omega); rwa [putT_far _ _ _ _ _ _ _ (Or.inl (by omega)), hr] at this

/-- what is answered -/
def TAns (w : World) (a b : List Tx) (e : Ending) (w' : World) : Prop := e = .returned (.slice (some ⟨w.heap.size, 0, none⟩) (a.length + 1) (a.length + 1)) ∧ KT w w.heap.size a.length b.length (lr a b) w'

set_option maxRecDepth 3000 in
set_option maxHeartbeats 16000000 in
theorem ptable_any (v u : Value) (a b : List Tx) (w : World) (hA : RowAt w v a) (hB : RowAt w u b) (hla : a.length ≤ 4294967296) (hlb : b.length ≤ 4294967296) :
    Calls Try.prog 19 #[v, u] w (TAns w a b) := by
  obtain ⟨ao, cap, rfl, hca⟩ := hA.open_
  obtain ⟨bo, cap2, rfl, hcb⟩ := hB.open_
  obtain ⟨n, hn⟩ : ∃ n, a.length = n := ⟨_, rfl⟩
  obtain ⟨m, hm⟩ : ∃ m, b.length = m := ⟨_, rfl⟩
  rw [hn] at hla hca ⊢
  rw [hm] at hlb hcb ⊢
  have HN := hidden hn
  have HM := hidden hm
  have HCA := hidden hca
  have HCB := hidden hcb
  clear hA hB hca hcb hn hm
  go_enter Try.func19, Try.ntmps19
  go_wp2_with (at_make; go_must (refine wpList_make_at _ rfl _ _ 38 rfl 32 (.slice none 0 0) 24 Try.underlying38 Try.infoInts rfl _ _ (n + 1) rfl rfl (by simp) (by simp) (by omega) (by omega) ?_; intro w9 hw9; have HS9 := hidden (show GA w n m 0 w9 from (by rw [hw9]; exact ga_start w n m)); clear hw9))
  go_loopw [6] (fun v6 wr => ∃ c : Nat, c ≤ n + 1 ∧ v6 = .int .i64 c ∧ Hid (GA w n m c wr)) (fun v6 _ => n + 1 - (intOf v6).toNat)
  case atStart => exact ⟨0, by omega, rfl, HS9.out⟩
  case round =>
    obtain ⟨c, hc, rfl, hga⟩ := hrel
    have hsz := hga.out.size
    have hth : wr.frozen? ⟨w.heap.size, c, none⟩ = false := hga.out.top.frozen c
    by_cases hlt : c ≤ n
    · go_wp2_with (at_make; go_must (refine wpList_make_at _ rfl _ _ 32 rfl 3 (.int .i64 0) 8 Try.underlying32 Try.infoInt rfl _ _ (m + 1) rfl rfl (by simp) (by simp) (by omega) (by omega) ?_; intro w9 hw9; have HG := hidden (ga_next hga.out hw9); have hth9 : w9.frozen? ⟨w.heap.size, c, none⟩ = false := (by rw [hw9]; exact (hga.out.top.alloc _).frozen c); have hce9 : w9.cell? ⟨w.heap.size, c, none⟩ = some (.slice none 0 0) := (by rw [hw9]; have := (hga.out.top.alloc (.cells (madeCells #[.int .i64 0] (m + 1)) 3)).cell (i := c) (by omega); simpa [topv] using this); clear hw9))
      go_roundw
      case rel => exact ⟨c + 1, by omega, by go_num, by first | exact HG.out | (rw [hsz]; exact HG.out)⟩
      case measure => simp [intOf]; omega
    · obtain rfl : c = n + 1 := by omega
      have HK := hidden (ga_end HN.out HM.out hga.out)
      clear hga hsz hth
      go_wp2_with fail
      refine wp_loop_ghost_k (fun g a' wo => ∃ (ni : Nat) (s8 : Value), ni ≤ n ∧ FrT a' (.slice ao n cap) (.slice bo m cap2) (.slice (some ⟨w.heap.size, 0, none⟩) (n + 1) (n + 1)) (.int .i64 ((ni : Int) - 1)) s8 ∧ Hid (g = ni ∧ KT w w.heap.size n m (sofarT a b ni m) wo)) n ?start ?round
      case start => exact ⟨n, _, Nat.le_refl _, ⟨rfl, rfl, rfl, rfl, rfl, rfl, rfl⟩, ⟨rfl, HK.out⟩⟩
      case round =>
      intro gk _ wo hinv
      obtain ⟨ni, u8, hni, hfr, hgs⟩ := hinv
      obtain ⟨ff, hff, ha⟩ := hfr.frame
      clear hff hfr HK hc hlt
      subst ha
      try dsimp only
      intro _ _ _ _
      have HG := hidden hgs.out.1
      have HK := hidden hgs.out.2
      clear hgs
      cases ni with
      | zero =>
        go_wp2_with fail
        go_ret
        exact ⟨by rw [HN.out]; rfl, by rw [HN.out, HM.out]; exact HK.out.congr fun j c _ _ => sofarT_all a b m j c⟩
      | succ i =>
      rw [show (((i + 1 : Nat) : Int) - 1) = (i : Int) by omega]
      have hin : i < n := by omega
      go_wp2_with fail
      refine wp_loop_ghost_k (fun g a' wi => ∃ nk : Nat, nk ≤ m ∧ FrT a' (.slice ao n cap) (.slice bo m cap2) (.slice (some ⟨w.heap.size, 0, none⟩) (n + 1) (n + 1)) (.int .i64 i) (.int .i64 ((nk : Int) - 1)) ∧ Hid (g = nk ∧ KT w w.heap.size n m (sofarT a b (i + 1) nk) wi)) m ?start ?round
      case start => exact ⟨m, Nat.le_refl _, ⟨rfl, rfl, rfl, rfl, rfl, rfl, rfl⟩, ⟨rfl, HK.out⟩⟩
      case round =>
      intro gj _ wi hinv
      obtain ⟨nk, hnk, hfr, hgs⟩ := hinv
      obtain ⟨ff2, hff, ha⟩ := hfr.frame
      clear hff hfr HK
      subst ha
      try dsimp only
      intro _ _ _ _
      have HJ := hidden hgs.out.1
      have HK := hidden hgs.out.2
      clear hgs
      cases nk with
      | zero =>
        go_wp2_with fail
        refine Handed.intro i (by have := HG.out; omega) ?_
        go_step
        exact ⟨i, _, by omega, ⟨rfl, rfl, rfl, rfl, rfl, rfl, rfl⟩, ⟨rfl, HK.out.congr fun j c _ hc => by rw [← HM.out] at hc; rw [sofarT_row a b i j c hc, HM.out]⟩⟩
      | succ k =>
      rw [show (((k + 1 : Nat) : Int) - 1) = (k : Int) by omega]
      have hkm : k < m := by omega
      have HK0 := hidden (kt_first HK.out)
      clear HK
      obtain ⟨p, hp⟩ : ∃ p, lr a b (i + 1) k = p := ⟨_, rfl⟩
      obtain ⟨q, hq⟩ : ∃ q, lr a b i (k + 1) = q := ⟨_, rfl⟩
      obtain ⟨r, hr⟩ : ∃ r, lr a b (i + 1) (k + 1) = r := ⟨_, rfl⟩
      have HP := hidden hp
      have HQ := hidden hq
      have HR := hidden hr
      have hp1 : 0 ≤ p ∧ p ≤ n := by have := lr_le a b (i + 1) k; rw [hp, HN.out] at this; exact this
      have hq1 : 0 ≤ q ∧ q ≤ n := by have := lr_le a b i (k + 1); rw [hq, HN.out] at this; exact this
      have hr1 : 0 ≤ r ∧ r ≤ n := by have := lr_le a b (i + 1) (k + 1); rw [hr, HN.out] at this; exact this
      clear hp hq hr
      go_upto_region 12 with fail
      refine wp_cut (fun a' wx => FrT a' (.slice ao n cap) (.slice bo m cap2) (.slice (some ⟨w.heap.size, 0, none⟩) (n + 1) (n + 1)) (.int .i64 i) (.int .i64 k) ∧ Hid (KT w w.heap.size n m (putT a b i k p) wx)) ?rest ?first
      case first =>
        intro J9 K9 hJ9 hK9
        obtain ⟨n1, n2, n3, n4, n5, n6, n7⟩ := near_of HK0.out hin hkm HP.out HQ.out HR.out
        have HE := hidden (kt_put (z' := p) HK0.out)
        clear n5 n6
        go_region
        first | refine Met.intro (hJ9 _ _ ?_) | refine hK9 _ _ (Met.intro (hJ9 _ _ ?_))
        exact ⟨⟨rfl, rfl, rfl, rfl, rfl, rfl, rfl⟩, by first | exact HE.out | exact HE.out.drew⟩
      case rest =>
      intro _ wc hinv
      obtain ⟨hfr, HK1⟩ := hinv
      obtain ⟨ff3, hff, ha⟩ := hfr.frame
      clear hff hfr
      subst ha
      try dsimp only
      go_upto_region 13 with fail
      refine wp_cut (fun a' wx => FrT a' (.slice ao n cap) (.slice bo m cap2) (.slice (some ⟨w.heap.size, 0, none⟩) (n + 1) (n + 1)) (.int .i64 i) (.int .i64 k) ∧ a'.tmps.getD 69 undef = .bool (decide (p < q)) ∧ Hid (KT w w.heap.size n m (putT a b i k p) wx)) ?rest ?first
      case first =>
        intro J9 K9 hJ9 hK9
        obtain ⟨n1, n2, n3, n4, n5, n6, n7⟩ := near_of HK1.out hin hkm HP.out HQ.out HR.out
        clear n2 n4 n6
        go_region
        first | refine Met.intro (hJ9 _ _ ?_) | refine hK9 _ _ (Met.intro (hJ9 _ _ ?_))
        exact ⟨⟨rfl, rfl, rfl, rfl, rfl, rfl, rfl⟩, by first | rfl | simp, by first | exact HK1.out | exact HK1.out.drew⟩
      case rest =>
      intro _ wc hinv
      obtain ⟨hfr, hv, HK2⟩ := hinv
      obtain ⟨ff3, hff, ha⟩ := hfr.frame
      rw [hff 69] at hv
      clear hff hfr
      subst ha
      try dsimp only
      rw [hv]
      clear hv
      go_upto_if 69 with fail
      refine wp_cut (fun a' wx => FrT a' (.slice ao n cap) (.slice bo m cap2) (.slice (some ⟨w.heap.size, 0, none⟩) (n + 1) (n + 1)) (.int .i64 i) (.int .i64 k) ∧ Hid (KT w w.heap.size n m (putT a b i k (max p q)) wx)) ?rest ?first
      case first =>
        intro J9 K9 hJ9 hK9
        by_cases hpq : p < q
        · rw [decide_eq_true hpq]
          have HE := hidden (show KT w w.heap.size n m (putT a b i k (max p q)) _ by rw [show max p q = q by omega]; exact kt_put (z' := q) HK2.out)
          obtain ⟨n1, n2, n3, n4, n5, n6, n7⟩ := near_of HK2.out hin hkm HP.out HQ.out HR.out
          clear n2 n4 n6
          go_upto_region 14 with fail
          go_region
          first | refine Met.intro (hJ9 _ _ ?_) | refine hK9 _ _ (Met.intro (hJ9 _ _ ?_))
          exact ⟨⟨rfl, rfl, rfl, rfl, rfl, rfl, rfl⟩, by first | exact HE.out | exact HE.out.drew⟩
        · rw [decide_eq_false hpq]
          have HE := hidden (show KT w w.heap.size n m (putT a b i k (max p q)) _ by rw [show max p q = p by omega]; exact HK2.out)
          go_wp2_with fail
          first | refine Met.intro (hJ9 _ _ ?_) | refine hK9 _ _ (Met.intro (hJ9 _ _ ?_))
          exact ⟨⟨rfl, rfl, rfl, rfl, rfl, rfl, rfl⟩, by first | exact HE.out | exact HE.out.drew⟩
      case rest =>
      intro _ wc hinv
      obtain ⟨hfr, HK3⟩ := hinv
      obtain ⟨ff3, hff, ha⟩ := hfr.frame
      clear hff hfr
      subst ha
      try dsimp only
      obtain ⟨x, hx⟩ : ∃ x, a[i]? = some x := ⟨a[i]'(by rw [HN.out]; exact hin), List.getElem?_eq_getElem _⟩
      obtain ⟨y, hy⟩ : ∃ y, b[k]? = some y := ⟨b[k]'(by rw [HM.out]; exact hkm), List.getElem?_eq_getElem _⟩
      have HST := hidden (lr_step hx hy)
      obtain ⟨b1, o1, hao, hcp1, hb1, cx⟩ := HCA.out i x hx
      obtain ⟨b2, o2, hbo, hcp2, hb2, cy⟩ := HCB.out k y hy
      subst hao hbo
      clear hx hy
      obtain ⟨z, hz⟩ : ∃ z, max p q = z := ⟨_, rfl⟩
      rw [hz] at HK3
      have HZ := hidden hz
      have hz1 : 0 ≤ z ∧ z ≤ n := by omega
      clear hz
      go_upto_region 15 with fail
      refine wp_cut (fun a' wx => FrT a' (.slice (some ⟨b1, o1, none⟩) n cap) (.slice (some ⟨b2, o2, none⟩) m cap2) (.slice (some ⟨w.heap.size, 0, none⟩) (n + 1) (n + 1)) (.int .i64 i) (.int .i64 k) ∧ a'.tmps.getD 112 undef = .bool (decide (x = y) && decide (z < r + 1)) ∧ Hid (KT w w.heap.size n m (putT a b i k z) wx)) ?rest ?first
      case first =>
        intro J9 K9 hJ9 hK9
        have cx2 := (HK3.out.bel.cell (p := ⟨b1, o1 + i, none⟩) hb1).trans cx
        have cy2 := (HK3.out.bel.cell (p := ⟨b2, o2 + k, none⟩) hb2).trans cy
        obtain ⟨n1, n2, n3, n4, n5, n6, n7⟩ := near_of HK3.out hin hkm HP.out HQ.out HR.out
        clear n4 n5 cx cy
        by_cases hxy : x = y
        · subst hxy
          have hqq : (x == x) = true := by simp
          go_region
          first | refine Met.intro (hJ9 _ _ ?_) | refine hK9 _ _ (Met.intro (hJ9 _ _ ?_))
          exact ⟨⟨rfl, rfl, rfl, rfl, rfl, rfl, rfl⟩, by simp, by first | exact HK3.out | exact HK3.out.drew⟩
        · have hqq : (x == y) = false := by simpa using hxy
          have HXY := hidden hxy
          clear hxy
          go_region
          first | refine Met.intro (hJ9 _ _ ?_) | refine hK9 _ _ (Met.intro (hJ9 _ _ ?_))
          exact ⟨⟨rfl, rfl, rfl, rfl, rfl, rfl, rfl⟩, by rw [decide_eq_false HXY.out]; rfl, by first | exact HK3.out | exact HK3.out.drew⟩
      case rest =>
      intro _ wc hinv
      obtain ⟨hfr, hv, HK4⟩ := hinv
      obtain ⟨ff3, hff, ha⟩ := hfr.frame
      rw [hff 112] at hv
      clear hff hfr
      subst ha
      try dsimp only
      rw [hv]
      clear hv
      clear cx cy
      by_cases hxy : x = y ∧ z < r + 1
      · rw [decide_eq_true hxy.1, decide_eq_true hxy.2]
        have HE := hidden (kt_last (z := r + 1) (by rw [HST.out, HP.out, HQ.out, HR.out, HZ.out, if_pos hxy.1]; omega) (kt_put (z' := r + 1) HK4.out))
        obtain ⟨n1, n2, n3, n4, n5, n6, n7⟩ := near_of HK4.out hin hkm HP.out HQ.out HR.out
        clear n4 n5 hxy
        go_upto_region 16 with fail
        go_region
        go_wp2_with fail
        refine Handed.intro k (by have := HJ.out; omega) ?_
        go_step
        exact ⟨k, by omega, ⟨rfl, rfl, rfl, rfl, rfl, rfl, rfl⟩, ⟨rfl, by first | exact HE.out | exact HE.out.drew⟩⟩
      · have hb : (decide (x = y) && decide (z < r + 1)) = false := by
          rw [Bool.and_eq_false_iff]
          by_cases h : x = y
          · exact Or.inr (decide_eq_false fun h2 => hxy ⟨h, h2⟩)
          · exact Or.inl (decide_eq_false h)
        rw [hb]
        have HE := hidden (kt_last (z := z) (by
          rw [HST.out, HP.out, HQ.out, HR.out, HZ.out]
          by_cases h : x = y
          · rw [if_pos h]; have : ¬ z < r + 1 := fun h2 => hxy ⟨h, h2⟩; omega
          · rw [if_neg h]; omega) HK4.out)
        clear hxy hb
        go_wp2_with fail
        refine Handed.intro k (by have := HJ.out; omega) ?_
        go_step
        exact ⟨k, by omega, ⟨rfl, rfl, rfl, rfl, rfl, rfl, rfl⟩, ⟨rfl, HE.out⟩⟩

end Go.Proofs.Ytdjdiaadflggfaa
