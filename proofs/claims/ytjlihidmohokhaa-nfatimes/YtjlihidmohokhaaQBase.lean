/-
  The document's own reader of expressions: its block, what fail and is answer, and what a reading says; conditions: the text's length, and that the reader's block holds it.
-/
import Derived.Test.YtjlihidmohokhaaKBase
import Derived.Test.YtjlihidmohokhaaROf
namespace Go.Proofs.Ytjlihidmohokhaa
open Go.RowKit Go.Proofs.Ytjlihidmohokhaa.Gl

/-- the reader's block: the text, where it stands, how deep, where something did not fit, and why -/
def RqAt (w : World) (R : Nat) (p : Tx) (k d b c : Int) : Prop := w.heap[R]? = some (.cells #[.string ⟨p.toArray⟩, .int .i64 k, .int .i64 d, .int .i64 b, .int .i64 c] 45)
theorem RqAt.cells {w : World} {R : Nat} {p : Tx} {k d b c : Int} (h : RqAt w R p k d b c) : w.cell? ⟨R, 0, none⟩ = some (.string ⟨p.toArray⟩) ∧ w.cell? ⟨R, 1, none⟩ = some (.int .i64 k) ∧ w.cell? ⟨R, 2, none⟩ = some (.int .i64 d) ∧ w.cell? ⟨R, 3, none⟩ = some (.int .i64 b) ∧ w.cell? ⟨R, 4, none⟩ = some (.int .i64 c) := by
  unfold RqAt at h
  simp [World.cell?, h]
theorem RqAt.thawed {w : World} {R : Nat} {p : Tx} {k d b c : Int} (h : RqAt w R p k d b c) : w.frozen? ⟨R, 0, none⟩ = false ∧ w.frozen? ⟨R, 1, none⟩ = false ∧ w.frozen? ⟨R, 2, none⟩ = false ∧ w.frozen? ⟨R, 3, none⟩ = false ∧ w.frozen? ⟨R, 4, none⟩ = false := by
  unfold RqAt at h
  simp [World.frozen?, h]
theorem RqAt.lt {w : World} {R : Nat} {p : Tx} {k d b c : Int} (h : RqAt w R p k d b c) : R < w.heap.size := (Array.getElem?_eq_some_iff.1 h).1
theorem RqAt.keep {w w' : World} {R : Nat} {p : Tx} {k d b c : Int} (h : RqAt w R p k d b c) (hb : w'.heap[R]? = w.heap[R]?) : RqAt w' R p k d b c := by unfold RqAt; rw [hb]; exact h
theorem RqAt.later {w w' : World} {R : Nat} {p : Tx} {k d b c : Int} (h : RqAt w R p k d b c) (hb : Below w.heap.size w w') : RqAt w' R p k d b c := h.keep (hb.block R h.lt)
theorem RqAt.alloc {w : World} {R : Nat} {p : Tx} {k d b c : Int} (h : RqAt w R p k d b c) (ob : Obj) : RqAt (w.alloc ob) R p k d b c := h.later ((Below.refl _ w).alloc (Nat.le_refl _) ob)
theorem RqAt.drew {w : World} {R : Nat} {p : Tx} {k d b c : Int} (h : RqAt w R p k d b c) : RqAt w.drew R p k d b c := h
theorem RqAt.drewN {w : World} {R : Nat} {p : Tx} {k d b c : Int} (h : RqAt w R p k d b c) (n : Nat) : RqAt (w.drewN n) R p k d b c := h
theorem RqAt.other {w : World} {R : Nat} {p : Tx} {k d b c : Int} (h : RqAt w R p k d b c) {g i : Nat} {v : Value} (hn : R ≠ g) : RqAt (w.setCell ⟨g, i, none⟩ v) R p k d b c := h.keep (heap_setCell_other w ⟨g, i, none⟩ R v hn)
theorem RqAt.put {w : World} {R : Nat} {p : Tx} {k d b c : Int} (h : RqAt w R p k d b c) {g : Nat} (hn : R ≠ g) (d0 d1 d2 d3 d4 d5 d6 d7 : Value) : RqAt ((((((((w.setCell ⟨g, 0, none⟩ d0).setCell ⟨g, 1, none⟩ d1).setCell ⟨g, 2, none⟩ d2).setCell ⟨g, 3, none⟩ d3).setCell ⟨g, 4, none⟩ d4).setCell ⟨g, 5, none⟩ d5).setCell ⟨g, 6, none⟩ d6).setCell ⟨g, 7, none⟩ d7) R p k d b c :=
  (((((((h.other hn).other hn).other hn).other hn).other hn).other hn).other hn).other hn
theorem RqAt.set1 {w : World} {R : Nat} {p : Tx} {k d b c : Int} (h : RqAt w R p k d b c) (y : Int) : RqAt (w.setCell ⟨R, 1, none⟩ (.int .i64 y)) R p y d b c := heap_setCell_same w R 1 _ 45 _ h
theorem RqAt.set2 {w : World} {R : Nat} {p : Tx} {k d b c : Int} (h : RqAt w R p k d b c) (y : Int) : RqAt (w.setCell ⟨R, 2, none⟩ (.int .i64 y)) R p k y b c := heap_setCell_same w R 2 _ 45 _ h
theorem RqAt.set3 {w : World} {R : Nat} {p : Tx} {k d b c : Int} (h : RqAt w R p k d b c) (y : Int) : RqAt (w.setCell ⟨R, 3, none⟩ (.int .i64 y)) R p k d y c := heap_setCell_same w R 3 _ 45 _ h
theorem RqAt.set4 {w : World} {R : Nat} {p : Tx} {k d b c : Int} (h : RqAt w R p k d b c) (y : Int) : RqAt (w.setCell ⟨R, 4, none⟩ (.int .i64 y)) R p k d b y := heap_setCell_same w R 4 _ 45 _ h
theorem RqAt.set1i {w : World} {R : Nat} {p : Tx} {k d b c : Int} (h : RqAt w R p k d b c) (y z : Int) (hy : y = z) : RqAt (w.setCell ⟨R, 1, none⟩ (.int .i64 y)) R p z d b c := by rw [hy]; exact h.set1 z
theorem RqAt.set2i {w : World} {R : Nat} {p : Tx} {k d b c : Int} (h : RqAt w R p k d b c) (y z : Int) (hy : y = z) : RqAt (w.setCell ⟨R, 2, none⟩ (.int .i64 y)) R p k z b c := by rw [hy]; exact h.set2 z
/-- where the reader stands -/
theorem RqAt.pos {w : World} {R : Nat} {p : Tx} {k : Nat} {d b c : Int} (h : RqAt w R p k d b c) : posOf w R = k := by
  unfold posOf
  rw [h.cells.2.1]
  simp [intOf]
/-- something did not fit -/
def BadAt (w : World) (R : Nat) (p : Tx) : Prop := ∃ k d b c : Int, RqAt w R p k d b c ∧ 0 ≤ b ∧ c ≠ 0
theorem BadAt.keep {w w' : World} {R : Nat} {p : Tx} (h : BadAt w R p) (hb : w'.heap[R]? = w.heap[R]?) : BadAt w' R p := by
  obtain ⟨k, d, b, c, hr, h2⟩ := h
  exact ⟨k, d, b, c, hr.keep hb, h2⟩
theorem BadAt.lt {w : World} {R : Nat} {p : Tx} (h : BadAt w R p) : R < w.heap.size := by
  obtain ⟨k, d, b, c, hr, h2⟩ := h
  exact hr.lt
/-- what a reading says -/
def QAns (w w' : World) (e : Ending) (R : Nat) (p : Tx) (k : Nat) (d : Int) : Rs Nd → Prop
  | .ok x m => ∃ v, e = .returned v ∧ NodeAt w' (w.heap.size ≤ ·) v x ∧ RqAt w' R p (k + m : Nat) d (-1) 0
  | .er _ _ => ∃ v x, e = .returned v ∧ NodeAt w' (w.heap.size ≤ ·) v x ∧ BadAt w' R p
/-- a reading of one sign at least -/
def QReads (fn : Nat) (rd : Tx → Rs Nd) (d : Int) : Prop :=
  ∀ (p : Tx) (k R : Nat) (w : World), p.length ≤ 1000 → k < p.length → RqAt w R p k d (-1) 0 →
    Calls Try.prog fn #[.pointer (some ⟨R, 0, none⟩)] w fun e w' => Gr R w w' ∧ QAns w w' e R p k d (rd (p.drop k))
/-- a reading at any place -/
def QReadsTo (fn : Nat) (rd : Tx → Rs Nd) (d : Int) : Prop :=
  ∀ (p : Tx) (k R : Nat) (w : World), p.length ≤ 1000 → k ≤ p.length → RqAt w R p k d (-1) 0 →
    Calls Try.prog fn #[.pointer (some ⟨R, 0, none⟩)] w fun e w' => Gr R w w' ∧ QAns w w' e R p k d (rd (p.drop k))

set_option maxHeartbeats 1000000 in
theorem fail_good (p : Tx) (k d : Int) (R : Nat) (a c : Int) (w : World) (hr : RqAt w R p k d (-1) 0) :
    Calls Try.prog 22 #[.pointer (some ⟨R, 0, none⟩), .int .i64 a, .int .i64 c] w fun e w' => e = .returned (.tuple #[]) ∧ RqAt w' R p k d a c ∧ Gr R w w' := by
  have HR := hidden hr
  have hR := hr.lt
  obtain ⟨r0, r1, r2, r3, r4⟩ := hr.cells
  obtain ⟨t0, t1, t2, t3, t4⟩ := hr.thawed
  clear hr
  go_enter Try.func22, Try.ntmps22
  go_wp2
  go_end0
  exact ⟨rfl, by (with_reducible (repeat (first | exact HR.out | apply RqAt.alloc | apply RqAt.put | apply RqAt.set1 | apply RqAt.set1i | apply RqAt.set2 | apply RqAt.set2i | apply RqAt.set3 | apply RqAt.set4 | apply RqAt.other | apply RqAt.drewN | apply RqAt.drew | exact (Int.natCast_succ _).symm | omega))), by (with_reducible (repeat (first | exact Gr.refl _ _ | apply Gr.alloc | apply Gr.put | apply Gr.own | apply Gr.new | apply Gr.drewN | apply Gr.drew | omega)))⟩
set_option maxHeartbeats 1000000 in
theorem fail_bad (p : Tx) (k d b e0 : Int) (R : Nat) (a c : Int) (w : World) (hr : RqAt w R p k d b e0) (hb : 0 ≤ b) :
    Calls Try.prog 22 #[.pointer (some ⟨R, 0, none⟩), .int .i64 a, .int .i64 c] w fun e w' => e = .returned (.tuple #[]) ∧ w' = w := by
  have hR := hr.lt
  obtain ⟨r0, r1, r2, r3, r4⟩ := hr.cells
  have hn : ¬ b < 0 := by omega
  clear hr
  go_enter Try.func22, Try.ntmps22
  go_wp2
  go_end0
  exact ⟨rfl, rfl⟩
set_option maxHeartbeats 2000000 in
theorem is_good (p : Tx) (k R : Nat) (d : Int) (c : UInt8) (w : World) (_hp : p.length ≤ 1048576) (hr : RqAt w R p k d (-1) 0) :
    Calls Try.prog 28 #[.pointer (some ⟨R, 0, none⟩), .int .u8 c.toNat] w fun e w' => e = .returned (.bool (meetB p k c)) ∧ ∃ n, w' = w.drewN n := by
  obtain ⟨r0, r1, r2, r3, r4⟩ := hr.cells
  clear hr
  by_cases hlt : k < p.length
  · have hli : (k : Int) < p.length := by omega
    obtain ⟨x, hd⟩ : ∃ x, x = p.getD k 0 := ⟨_, rfl⟩
    have hb : ∀ h, (⟨p.toArray⟩ : ByteArray)[k]'h = x := fun h => by rw [byte_at, hd]
    have HM := hidden (show meetB p k c = (x == c) by unfold meetB; rw [← hd]; simp [hlt])
    clear hd
    by_cases he : x = c
    · subst he
      have hq : ((x.toNat : Int) == (x.toNat : Int)) = true := by simp
      go_enter Try.func28, Try.ntmps28
      go_wp2
      go_quiet (fail)
      go_wp2
      go_ret
      exact ⟨by rw [HM.out]; simp, _, rfl⟩
    · have hq : ((x.toNat : Int) == (c.toNat : Int)) = false := by
        rw [beq_eq_false_iff_ne]
        intro h
        exact he (UInt8.toNat_inj.1 (by exact_mod_cast h))
      go_enter Try.func28, Try.ntmps28
      go_wp2
      go_quiet (fail)
      go_wp2
      go_ret
      exact ⟨by rw [HM.out]; simp [he], _, rfl⟩
  · have hli : decide ((k : Int) < p.length) = false := by simp; omega
    have HM := hidden (show meetB p k c = false by unfold meetB; simp [hlt])
    go_enter Try.func28, Try.ntmps28
    go_wp2
    go_quiet (fail)
    go_wp2
    go_ret
    exact ⟨by rw [HM.out]; rfl, _, rfl⟩
set_option maxHeartbeats 2000000 in
theorem is_bad (p : Tx) (k d b e0 : Int) (R : Nat) (c : UInt8) (w : World) (hr : RqAt w R p k d b e0) (hb : 0 ≤ b) :
    Calls Try.prog 28 #[.pointer (some ⟨R, 0, none⟩), .int .u8 c.toNat] w fun e w' => e = .returned (.bool false) ∧ ∃ n, w' = w.drewN n := by
  obtain ⟨r0, r1, r2, r3, r4⟩ := hr.cells
  have hn : ¬ b < 0 := by omega
  have hd : decide (b < 0) = false := decide_eq_false hn
  clear hr
  go_enter Try.func28, Try.ntmps28
  go_wp2
  go_quiet (fail)
  go_wp2
  go_ret
  exact ⟨rfl, _, rfl⟩

end Go.Proofs.Ytjlihidmohokhaa
