
/-
  What the program's own meetings tells, whatever is done with each; conditions: where the two lists lie, and that they are right by themselves.
-/
import Derived.Test.YtcdjemheokmglabCRow
namespace Go.Proofs.Ytcdjemheokmglab
open Go.RowKit Go.Proofs.Ytcdjemheokmglab.Ln Go.Proofs.Ytcdjemheokmglab.Ol

/-- what both do at one place, as a value -/
def mV (m : Oq × Oq) : Value := .agg #[.int .i64 m.1.1, .int .i64 m.1.2.1, .string ⟨m.1.2.2.toArray⟩, .int .i64 m.2.1, .int .i64 m.2.2.1, .string ⟨m.2.2.2.toArray⟩]
/-- in a block of its own -/
def MtC (W : World) (b : Nat) (c0 c1 c2 c3 c4 c5 : Value) : Prop := W.heap[b]? = some (.cells #[c0, c1, c2, c3, c4, c5] 42 (0, 0))
def mtO (m : Oq × Oq) : Obj := .cells #[.int .i64 m.1.1, .int .i64 m.1.2.1, .string ⟨m.1.2.2.toArray⟩, .int .i64 m.2.1, .int .i64 m.2.2.1, .string ⟨m.2.2.2.toArray⟩] 42
section
variable {W W' : World} {b : Nat} {c0 c1 c2 c3 c4 c5 : Value}
theorem MtC.lt (h : MtC W b c0 c1 c2 c3 c4 c5) : b < W.heap.size := (Array.getElem?_eq_some_iff.1 h).1
theorem MtC.cells (h : MtC W b c0 c1 c2 c3 c4 c5) : W.cell? ⟨b, 0, none⟩ = some c0 ∧ W.cell? ⟨b, 1, none⟩ = some c1 ∧ W.cell? ⟨b, 2, none⟩ = some c2 ∧ W.cell? ⟨b, 3, none⟩ = some c3 ∧ W.cell? ⟨b, 4, none⟩ = some c4 ∧ W.cell? ⟨b, 5, none⟩ = some c5 := by
  unfold World.cell?; rw [show W.heap[b]? = _ from h]; exact ⟨rfl, rfl, rfl, rfl, rfl, rfl⟩
theorem MtC.thaw (h : MtC W b c0 c1 c2 c3 c4 c5) (i : Nat) : W.frozen? ⟨b, i, none⟩ = false := by simp [World.frozen?, show W.heap[b]? = _ from h]
theorem MtC.keep (h : MtC W b c0 c1 c2 c3 c4 c5) (hb : W'.heap[b]? = W.heap[b]?) : MtC W' b c0 c1 c2 c3 c4 c5 := hb.trans h
theorem MtC.later (h : MtC W b c0 c1 c2 c3 c4 c5) (hb : Below W.heap.size W W') : MtC W' b c0 c1 c2 c3 c4 c5 := h.keep (hb.block b h.lt)
theorem MtC.but {k : Nat} (h : MtC W b c0 c1 c2 c3 c4 c5) (hb : But k W W') (hk : b ≠ k) : MtC W' b c0 c1 c2 c3 c4 c5 := h.keep (hb.block b h.lt hk)
theorem MtC.alloc (h : MtC W b c0 c1 c2 c3 c4 c5) (o : Obj) : MtC (W.alloc o) b c0 c1 c2 c3 c4 c5 := h.later (bel_alloc (Below.refl _ _) o)
theorem MtC.other (h : MtC W b c0 c1 c2 c3 c4 c5) {c i : Nat} {u : Value} (hc : b ≠ c) : MtC (W.setCell ⟨c, i, none⟩ u) b c0 c1 c2 c3 c4 c5 := h.keep (heap_setCell_ne _ _ _ _ _ hc)
theorem MtC.drewN (h : MtC W b c0 c1 c2 c3 c4 c5) (n : Nat) : MtC (W.drewN n) b c0 c1 c2 c3 c4 c5 := h.keep rfl
theorem MtC.set0 (h : MtC W b c0 c1 c2 c3 c4 c5) (u : Value) : MtC (W.setCell ⟨b, 0, none⟩ u) b u c1 c2 c3 c4 c5 := by
  obtain ⟨hlt, hk⟩ := Array.getElem?_eq_some_iff.1 h
  show (W.heap.modify b _)[b]? = _
  rw [Array.getElem?_eq_getElem (by rw [Array.size_modify]; exact hlt), Array.getElem_modify_self, hk]
  rfl
theorem MtC.set1 (h : MtC W b c0 c1 c2 c3 c4 c5) (u : Value) : MtC (W.setCell ⟨b, 1, none⟩ u) b c0 u c2 c3 c4 c5 := by
  obtain ⟨hlt, hk⟩ := Array.getElem?_eq_some_iff.1 h
  show (W.heap.modify b _)[b]? = _
  rw [Array.getElem?_eq_getElem (by rw [Array.size_modify]; exact hlt), Array.getElem_modify_self, hk]
  rfl
theorem MtC.set2 (h : MtC W b c0 c1 c2 c3 c4 c5) (u : Value) : MtC (W.setCell ⟨b, 2, none⟩ u) b c0 c1 u c3 c4 c5 := by
  obtain ⟨hlt, hk⟩ := Array.getElem?_eq_some_iff.1 h
  show (W.heap.modify b _)[b]? = _
  rw [Array.getElem?_eq_getElem (by rw [Array.size_modify]; exact hlt), Array.getElem_modify_self, hk]
  rfl
theorem MtC.set3 (h : MtC W b c0 c1 c2 c3 c4 c5) (u : Value) : MtC (W.setCell ⟨b, 3, none⟩ u) b c0 c1 c2 u c4 c5 := by
  obtain ⟨hlt, hk⟩ := Array.getElem?_eq_some_iff.1 h
  show (W.heap.modify b _)[b]? = _
  rw [Array.getElem?_eq_getElem (by rw [Array.size_modify]; exact hlt), Array.getElem_modify_self, hk]
  rfl
theorem MtC.set4 (h : MtC W b c0 c1 c2 c3 c4 c5) (u : Value) : MtC (W.setCell ⟨b, 4, none⟩ u) b c0 c1 c2 c3 u c5 := by
  obtain ⟨hlt, hk⟩ := Array.getElem?_eq_some_iff.1 h
  show (W.heap.modify b _)[b]? = _
  rw [Array.getElem?_eq_getElem (by rw [Array.size_modify]; exact hlt), Array.getElem_modify_self, hk]
  rfl
theorem MtC.set5 (h : MtC W b c0 c1 c2 c3 c4 c5) (u : Value) : MtC (W.setCell ⟨b, 5, none⟩ u) b c0 c1 c2 c3 c4 u := by
  obtain ⟨hlt, hk⟩ := Array.getElem?_eq_some_iff.1 h
  show (W.heap.modify b _)[b]? = _
  rw [Array.getElem?_eq_getElem (by rw [Array.size_modify]; exact hlt), Array.getElem_modify_self, hk]
  rfl
end
theorem MtC.new (W : World) (m : Oq × Oq) : MtC (W.alloc (mtO m)) W.heap.size (.int .i64 m.1.1) (.int .i64 m.1.2.1) (.string ⟨m.1.2.2.toArray⟩) (.int .i64 m.2.1) (.int .i64 m.2.2.1) (.string ⟨m.2.2.2.toArray⟩) := World.alloc_heap_new W _
theorem results_mt {fn : Func} {t : Tmp} (h : fn.results = #[.cell t 42]) (tmps : Array Value) (w : World) (b : Nat) (c0 c1 c2 c3 c4 c5 : Value) (hp : tmps.getD t undef = .pointer (some ⟨b, 0, none⟩)) (hb : MtC w b c0 c1 c2 c3 c4 c5) :
    (results fn tmps).run Try.prog w = .ok (.agg #[c0, c1, c2, c3, c4, c5]) w := by
  obtain ⟨q0, q1, q2, q3, q4, q5⟩ := hb.cells
  rw [Array.getD_eq_getD_getElem?] at hp
  simp [results, h, hp, go_sem, q0, q1, q2, q3, q4, q5]

theorem cmid_any (m : Oq × Oq) (w : World) : Calls Try.prog 25 #[mV m] w fun e w' => e = .returned (.bool (mid m)) ∧ Below w.heap.size w w' := by
  obtain ⟨⟨x1, x2, x3⟩, ⟨y1, y2, y3⟩⟩ := m
  have HB := hidden (bel_alloc (Below.refl w.heap.size w) (mtO ((x1, x2, x3), (y1, y2, y3))))
  unfold mV
  by_cases h : x1 = 0
  · subst h
    go_enter Try.func25, Try.ntmps25
    go_wp2_with fail
    go_ret
    exact ⟨rfl, HB.out⟩
  · have hb : (x1 == 0) = false := by simpa using h
    have hb2 : (x1 != 0) = true := by simpa using h
    have HM := hidden (show mid ((x1, x2, x3), (y1, y2, y3)) = (y1 != 0) by simp only [mid, hb]; rfl)
    go_enter Try.func25, Try.ntmps25
    go_wp2_with fail
    go_ret
    exact ⟨by rw [HM.out]; rfl, HB.out⟩

theorem cagree_any (m : Oq × Oq) (w : World) : Calls Try.prog 26 #[mV m] w fun e w' => e = .returned (.bool (agr m)) ∧ Below w.heap.size w w' := by
  obtain ⟨⟨x1, x2, x3⟩, ⟨y1, y2, y3⟩⟩ := m
  have HB := hidden (bel_alloc (Below.refl w.heap.size w) (mtO ((x1, x2, x3), (y1, y2, y3))))
  unfold mV
  by_cases h : x1 = 1
  · subst h
    go_enter Try.func26, Try.ntmps26
    go_wp2_with fail
    go_ret
    exact ⟨by unfold agr; rfl, HB.out⟩
  · have hb : (x1 == 1) = false := by simpa using h
    by_cases h2 : y1 = 1
    · subst h2
      have HM := hidden (show agr ((x1, x2, x3), (1, y2, y3)) = true by simp [agr])
      go_enter Try.func26, Try.ntmps26
      go_wp2_with fail
      go_ret
      exact ⟨by rw [HM.out]; rfl, HB.out⟩
    · have hb2 : (y1 == 1) = false := by simpa using h2
      have HM := hidden (show agr ((x1, x2, x3), (y1, y2, y3)) = decide (x3 = y3) by simp only [agr, hb, hb2, Bool.false_or])
      have HT := hidden (show (x3 == y3) = decide (x3 = y3) by by_cases e : x3 = y3 <;> simp [e])
      go_enter Try.func26, Try.ntmps26
      go_wp2_with fail
      go_ret
      exact ⟨by rw [HM.out, ← HT.out]; rfl, HB.out⟩

theorem copen_any (x : Oq) (w : World) (hf : x.2.2.length ≤ 140737488355328) : Calls Try.prog 27 #[opV x] w fun e w' => e = .returned (.bool (opn x)) ∧ Below w.heap.size w w' := by
  obtain ⟨x1, x2, x3⟩ := x
  have HB := hidden (bel_alloc (Below.refl w.heap.size w) (opO x1 x2 x3))
  have HF := hidden hf
  clear hf
  unfold opV
  by_cases h : x1 = 1
  · subst h
    have HM := hidden (show opn (1, x2, x3) = false by simp [opn])
    go_enter Try.func27, Try.ntmps27
    go_wp2_with fail
    go_ret
    exact ⟨by rw [HM.out]; rfl, HB.out⟩
  · have hb : (x1 == 1) = false := by simpa using h
    have hb2 : (x1 != 1) = true := by simpa using h
    have HM := hidden (show opn (x1, x2, x3) = !cl x3 by simp only [opn, hb]; rfl)
    go_enter Try.func27, Try.ntmps27
    go_wp2_with fail
    refine (suffix_any x3 _ HF.out).mono ?_
    rintro e w' ⟨rfl, hw⟩
    replace hw : w' = w.alloc (opO x1 x2 x3) := hw
    rw [← hw] at HB
    clear hw
    go_wp2_with fail
    go_ret
    exact ⟨by rw [HM.out]; rfl, HB.out⟩

set_option maxHeartbeats 2000000 in
theorem ctold_any (m : Oq × Oq) (w : World) : Calls Try.prog 28 #[mV m] w fun e w' => e = .returned (opV (tld m)) ∧ Below w.heap.size w w' := by
  obtain ⟨⟨x1, x2, x3⟩, ⟨y1, y2, y3⟩⟩ := m
  have HB0 := hidden (bel_alloc (bel_alloc (Below.refl w.heap.size w) (mtO ((x1, x2, x3), (y1, y2, y3)))) (opO 0 0 []))
  have HC0 := hidden (OpC.new (w.alloc (mtO ((x1, x2, x3), (y1, y2, y3)))) 0 0 [])
  rw [World.size_alloc] at HC0
  unfold mtO opO at HC0 HB0
  unfold mV
  by_cases h : y1 = 0
  · subst h
    have HM := hidden (show tld ((x1, x2, x3), (0, y2, y3)) = (x1, x2, x3) by simp [tld])
    go_enter Try.func28, Try.ntmps28
    go_wp2_with fail
    refine bodyPost_ret (results_opc rfl _ _ (w.heap.size + 1) x1 x2 x3 rfl (by (with_reducible (repeat (first | exact HC0.out | exact OpC.newAt (by simp) | apply OpC.set0 | apply OpC.set1 | apply OpC.set2 | apply OpC.alloc | apply OpC.other | apply OpC.drewN | apply OpC.drew | assumption | omega))))) rfl ?_
    exact ⟨by rw [HM.out]; rfl, by (with_reducible (repeat (first | exact HB0.out | exact Below.refl _ _ | apply bel_alloc | apply bel_put | apply bel_set | apply Below.drew | apply below_drewN | assumption | omega)))⟩
  have k1 : (y1 == 0) = false := by simpa using h
  by_cases hx : x1 = 0 ∨ x1 = 1
  · have HM := hidden (show tld ((x1, x2, x3), (y1, y2, y3)) = (y1, y2, y3) by unfold tld; rw [if_neg h]; exact if_pos hx)
    rcases hx with hx | hx
    · subst hx
      go_enter Try.func28, Try.ntmps28
      go_wp2_with fail
      refine bodyPost_ret (results_opc rfl _ _ (w.heap.size + 1) y1 y2 y3 rfl (by (with_reducible (repeat (first | exact HC0.out | exact OpC.newAt (by simp) | apply OpC.set0 | apply OpC.set1 | apply OpC.set2 | apply OpC.alloc | apply OpC.other | apply OpC.drewN | apply OpC.drew | assumption | omega))))) rfl ?_
      exact ⟨by rw [HM.out]; rfl, by (with_reducible (repeat (first | exact HB0.out | exact Below.refl _ _ | apply bel_alloc | apply bel_put | apply bel_set | apply Below.drew | apply below_drewN | assumption | omega)))⟩
    · subst hx
      go_enter Try.func28, Try.ntmps28
      go_wp2_with fail
      refine bodyPost_ret (results_opc rfl _ _ (w.heap.size + 1) y1 y2 y3 rfl (by (with_reducible (repeat (first | exact HC0.out | exact OpC.newAt (by simp) | apply OpC.set0 | apply OpC.set1 | apply OpC.set2 | apply OpC.alloc | apply OpC.other | apply OpC.drewN | apply OpC.drew | assumption | omega))))) rfl ?_
      exact ⟨by rw [HM.out]; rfl, by (with_reducible (repeat (first | exact HB0.out | exact Below.refl _ _ | apply bel_alloc | apply bel_put | apply bel_set | apply Below.drew | apply below_drewN | assumption | omega)))⟩
  have hx0 : ¬ x1 = 0 := fun e => hx (Or.inl e)
  have hx1 : ¬ x1 = 1 := fun e => hx (Or.inr e)
  have k2 : (x1 == 0) = false := by simpa using hx0
  have k3 : (x1 == 1) = false := by simpa using hx1
  by_cases h1 : y1 = 1
  · subst h1
    have HM := hidden (show tld ((x1, x2, x3), (1, y2, y3)) = (x1, x2, x3) by simp [tld, hx0, hx1])
    go_enter Try.func28, Try.ntmps28
    go_wp2_with fail
    refine bodyPost_ret (results_opc rfl _ _ (w.heap.size + 1) x1 x2 x3 rfl (by (with_reducible (repeat (first | exact HC0.out | exact OpC.newAt (by simp) | apply OpC.set0 | apply OpC.set1 | apply OpC.set2 | apply OpC.alloc | apply OpC.other | apply OpC.drewN | apply OpC.drew | assumption | omega))))) rfl ?_
    exact ⟨by rw [HM.out]; rfl, by (with_reducible (repeat (first | exact HB0.out | exact Below.refl _ _ | apply bel_alloc | apply bel_put | apply bel_set | apply Below.drew | apply below_drewN | assumption | omega)))⟩
  have k4 : (y1 == 1) = false := by simpa using h1
  by_cases h2 : x1 = 2
  · subst h2
    have HM := hidden (show tld ((2, x2, x3), (y1, y2, y3)) = (y1, y2, y3) by simp [tld, h, h1])
    go_enter Try.func28, Try.ntmps28
    go_wp2_with fail
    refine bodyPost_ret (results_opc rfl _ _ (w.heap.size + 1) y1 y2 y3 rfl (by (with_reducible (repeat (first | exact HC0.out | exact OpC.newAt (by simp) | apply OpC.set0 | apply OpC.set1 | apply OpC.set2 | apply OpC.alloc | apply OpC.other | apply OpC.drewN | apply OpC.drew | assumption | omega))))) rfl ?_
    exact ⟨by rw [HM.out]; rfl, by (with_reducible (repeat (first | exact HB0.out | exact Below.refl _ _ | apply bel_alloc | apply bel_put | apply bel_set | apply Below.drew | apply below_drewN | assumption | omega)))⟩
  have k5 : (x1 == 2) = false := by simpa using h2
  by_cases h3 : y1 = 2
  · subst h3
    have HM := hidden (show tld ((x1, x2, x3), (2, y2, y3)) = (x1, x2, x3) by simp [tld, hx0, hx1, h2])
    go_enter Try.func28, Try.ntmps28
    go_wp2_with fail
    refine bodyPost_ret (results_opc rfl _ _ (w.heap.size + 1) x1 x2 x3 rfl (by (with_reducible (repeat (first | exact HC0.out | exact OpC.newAt (by simp) | apply OpC.set0 | apply OpC.set1 | apply OpC.set2 | apply OpC.alloc | apply OpC.other | apply OpC.drewN | apply OpC.drew | assumption | omega))))) rfl ?_
    exact ⟨by rw [HM.out]; rfl, by (with_reducible (repeat (first | exact HB0.out | exact Below.refl _ _ | apply bel_alloc | apply bel_put | apply bel_set | apply Below.drew | apply below_drewN | assumption | omega)))⟩
  have k6 : (y1 == 2) = false := by simpa using h3
  have HM := hidden (show tld ((x1, x2, x3), (y1, y2, y3)) = zO by simp [tld, h, hx0, hx1, h1, h2, h3])
  go_enter Try.func28, Try.ntmps28
  go_wp2_with fail
  refine bodyPost_ret (results_opc rfl _ _ (w.heap.size + 1) 0 0 [] rfl (by (with_reducible (repeat (first | exact HC0.out | exact OpC.newAt (by simp) | apply OpC.set0 | apply OpC.set1 | apply OpC.set2 | apply OpC.alloc | apply OpC.other | apply OpC.drewN | apply OpC.drew | assumption | omega))))) rfl ?_
  exact ⟨by rw [HM.out]; rfl, by (with_reducible (repeat (first | exact HB0.out | exact Below.refl _ _ | apply bel_alloc | apply bel_put | apply bel_set | apply Below.drew | apply below_drewN | assumption | omega)))⟩

end Go.Proofs.Ytcdjemheokmglab

namespace Go.Proofs.Ytcdjemheokmglab
open Go.RowKit Go.Proofs.Ytcdjemheokmglab.Ln Go.Proofs.Ytcdjemheokmglab.Ol

/-- a row in memory, of which these steps are left -/
def RL (w0 W : World) (b : Nat) (P : List Oq) : Prop := ∃ v l g, RowC W b v g ∧ OpsAt w0 v l ∧ Gone l g ∧ Al l ∧ curO l g = P
theorem RL.keep {w0 W W' : World} {b : Nat} {P : List Oq} (h : RL w0 W b P) (hb : b < W.heap.size → W'.heap[b]? = W.heap[b]?) : RL w0 W' b P := by
  obtain ⟨v, l, g, h1, h2⟩ := h
  exact ⟨v, l, g, h1.keep (hb h1.lt), h2⟩
theorem RL.later {w0 W W' : World} {b : Nat} {P : List Oq} (h : RL w0 W b P) (hb : Below W.heap.size W W') : RL w0 W' b P := h.keep fun hl => hb.block b hl
theorem RL.but {w0 W W' : World} {b k : Nat} {P : List Oq} (h : RL w0 W b P) (hb : But k W W') (hk : b ≠ k) : RL w0 W' b P := h.keep fun hl => hb.block b hl hk
theorem RL.other {w0 W : World} {b : Nat} {P : List Oq} (h : RL w0 W b P) {c i : Nat} {u : Value} (hc : b ≠ c) : RL w0 (W.setCell ⟨c, i, none⟩ u) b P := h.keep fun _ => heap_setCell_ne _ _ _ _ _ hc
theorem RL.lt {w0 W : World} {b : Nat} {P : List Oq} (h : RL w0 W b P) : b < W.heap.size := by
  obtain ⟨v, l, g, h1, _⟩ := h
  exact h1.lt
theorem RL.al {w0 W : World} {b : Nat} {P : List Oq} (h : RL w0 W b P) : Al P := by
  obtain ⟨v, l, g, _, _, hg, hA, rfl⟩ := h
  cases l with
  | nil => exact hA
  | cons x r =>
    by_cases hx : x.1 = 1
    · rw [show curO (x :: r) g = (1, x.2.1 - g, x.2.2) :: r from if_pos hx]
      intro y hy
      rcases List.mem_cons.1 hy with rfl | hy
      · obtain ⟨g1, g2⟩ := hg.2.2 x r rfl hx
        have g3 := hg.1
        rcases (hA x (by simp)).1 with ⟨_, _, a⟩ | ⟨a, _⟩
        · exact ⟨Or.inl ⟨rfl, by show 1 ≤ x.2.1 - g; omega, a⟩, by show x.2.1 - g ≤ _; omega⟩
        · omega
      · exact hA y (by simp [hy])
    · rw [show curO (x :: r) g = x :: r from if_neg hx]; exact hA

theorem cendedR_any (w0 : World) (b : Nat) (P : List Oq) (W : World) (h : RL w0 W b P) :
    Calls Try.prog 36 #[.pointer (some ⟨b, 0, none⟩)] W fun e w' => e = .returned (.bool P.isEmpty) ∧ w' = W := by
  obtain ⟨v, l, g, h1, h2, h3, h4, h5⟩ := h
  obtain ⟨ao, cap, rfl⟩ := h2.shape
  refine (cended_any b ao l.length cap g W h1).mono ?_
  rintro e w' ⟨rfl, rfl⟩
  refine ⟨ret_bool ?_, rfl⟩
  subst h5
  cases l with
  | nil => rfl
  | cons x r => 
    have : curO (x :: r) g ≠ [] := fun h => by cases curO_nil.1 h
    cases hc : curO (x :: r) g with
    | nil => exact absurd hc this
    | cons y q => simp
theorem cnextR_any (w0 : World) (b : Nat) (P : List Oq) (W : World) (h : RL w0 W b P) (hb : Below w0.heap.size w0 W) :
    Calls Try.prog 41 #[.pointer (some ⟨b, 0, none⟩)] W fun e w' => e = .returned (opV (hdP P)) ∧ Below W.heap.size W w' := by
  obtain ⟨v, l, g, h1, h2, h3, h4, rfl⟩ := h
  exact cnext_any b v g l W h1 (h2.later hb) h3
theorem cpassR_any (w0 : World) (b : Nat) (P : List Oq) (n : Int) (W : World) (h : RL w0 W b P) (hb : Below w0.heap.size w0 W) (hn : 1 ≤ n) (hm : n ≤ lng (hdP P)) :
    Calls Try.prog 42 #[.pointer (some ⟨b, 0, none⟩), .int .i64 n] W fun e w' => e = .returned (opV (psO (hdP P) n)) ∧ But b W w' ∧ RL w0 w' b (onn P n) := by
  obtain ⟨v, l, g, h1, h2, h3, h4, rfl⟩ := h
  refine (cpass_any w0 b v g n l W hb h1 h2 h3 h4 hn hm).mono ?_
  rintro e w' ⟨rfl, k1, v', l', g', k2, k3, k4, k5, k6⟩
  exact ⟨rfl, k1, v', l', g', k2, k3, k4, k5, k6⟩

/-- but for two blocks all lies as it lay -/
structure But2 (b c : Nat) (W W' : World) : Prop where
  os : W'.os = W.os
  tape : W'.tape = W.tape
  output : W'.output = W.output
  size : W.heap.size ≤ W'.heap.size
  block : ∀ k, k < W.heap.size → k ≠ b → k ≠ c → W'.heap[k]? = W.heap[k]?
theorem But2.refl (b c : Nat) (W : World) : But2 b c W W := ⟨rfl, rfl, rfl, Nat.le_refl _, fun _ _ _ _ => rfl⟩
theorem But2.below {b c : Nat} {A B C : World} (h : But2 b c A B) (k : Below B.heap.size B C) : But2 b c A C :=
  ⟨k.os.trans h.os, k.tape.trans h.tape, k.output.trans h.output, Nat.le_trans h.size k.size, fun i hi n1 n2 => (k.block i (Nat.lt_of_lt_of_le hi h.size)).trans (h.block i hi n1 n2)⟩
theorem But2.one {b c : Nat} {A B C : World} (h : But2 b c A B) (k : But b B C) : But2 b c A C :=
  ⟨k.os.trans h.os, k.tape.trans h.tape, k.output.trans h.output, Nat.le_trans h.size k.size, fun i hi n1 n2 => (k.block i (Nat.lt_of_lt_of_le hi h.size) n1).trans (h.block i hi n1 n2)⟩
theorem But2.two {b c : Nat} {A B C : World} (h : But2 b c A B) (k : But c B C) : But2 b c A C :=
  ⟨k.os.trans h.os, k.tape.trans h.tape, k.output.trans h.output, Nat.le_trans h.size k.size, fun i hi n1 n2 => (k.block i (Nat.lt_of_lt_of_le hi h.size) n2).trans (h.block i hi n1 n2)⟩
theorem But2.setNew {b c : Nat} {A B : World} (h : But2 b c A B) {k : Nat} (i : Nat) (u : Value) (hc : A.heap.size ≤ k) : But2 b c A (B.setCell ⟨k, i, none⟩ u) :=
  ⟨h.os, h.tape, h.output, by simpa using h.size, fun j hj n1 n2 => (heap_setCell_ne _ _ _ _ _ (by omega)).trans (h.block j hj n1 n2)⟩
theorem But2.alloc {b c : Nat} {A B : World} (h : But2 b c A B) (o : Obj) : But2 b c A (B.alloc o) := h.below (bel_alloc (Below.refl _ _) o)
theorem But2.bel {b c B : Nat} {A W W' : World} (h : Below B A W) (k : But2 b c W W') (hb : B ≤ b) (hc : B ≤ c) (hs : B ≤ W.heap.size) : Below B A W' :=
  ⟨k.os.trans h.os, k.tape.trans h.tape, k.output.trans h.output, Nat.le_trans h.size k.size, fun i hi => (k.block i (by omega) (by omega) (by omega)).trans (h.block i hi)⟩

theorem op_kind (x1 x2 : Int) (x3 : Tx) (w : World) : (Instr.field 30 (.agg #[.int .i64 x1, .int .i64 x2, .string ⟨x3.toArray⟩]) 0).run Try.prog w = .ok (.int .i64 x1) w := by kernel_rfl
set_option maxHeartbeats 2000000 in
theorem cmeet_any (w0 : World) (b1 b2 : Nat) (P Q : List Oq) (W : World) (h1 : RL w0 W b1 P) (h2 : RL w0 W b2 Q) (hb : Below w0.heap.size w0 W) (hne : b1 ≠ b2) (hl1 : w0.heap.size ≤ b1) :
    Calls Try.prog 37 #[.pointer (some ⟨b1, 0, none⟩), .pointer (some ⟨b2, 0, none⟩)] W fun e w' => e = .returned (mV (mt P Q)) ∧ But2 b1 b2 W w' ∧ RL w0 w' b1 (nxP P Q) ∧ RL w0 w' b2 (nxQ P Q) := by
  have hA1 := h1.al
  have hA2 := h2.al
  have l1 := h1.lt
  have l2 := h2.lt
  have hws := hb.size
  obtain ⟨W1, hW1⟩ : ∃ W1, W.alloc (mtO (zO, zO)) = W1 := ⟨_, rfl⟩
  have hW1b : Below W.heap.size W W1 := by rw [← hW1]; exact bel_alloc (Below.refl _ _) _
  have H1 := hidden (h1.later hW1b)
  have H2 := hidden (h2.later hW1b)
  have HB := hidden (hb.trans (hW1b.mono hws))
  have HBT := hidden ((But2.refl b1 b2 W).below hW1b)
  have HM := hidden (show MtC W1 W.heap.size (.int .i64 0) (.int .i64 0) (.string ⟨#[]⟩) (.int .i64 0) (.int .i64 0) (.string ⟨#[]⟩) by rw [← hW1]; exact MtC.new W (zO, zO))
  have hs1 : W1.heap.size = W.heap.size + 1 := by rw [← hW1]; simp
  have hW1' : W.alloc (.cells #[.int .i64 0, .int .i64 0, .string ⟨#[]⟩, .int .i64 0, .int .i64 0, .string ⟨#[]⟩] 42) = W1 := hW1
  have n1 : b1 ≠ W.heap.size := by omega
  have n2 : b2 ≠ W.heap.size := by omega
  clear h1 h2 hb hW1b hW1
  obtain ⟨⟨x1, x2, x3⟩, hx⟩ : ∃ x, hdP P = x := ⟨_, rfl⟩
  obtain ⟨⟨y1, y2, y3⟩, hy⟩ : ∃ x, hdP Q = x := ⟨_, rfl⟩
  have HX := hidden hx
  have HY := hidden hy
  have hfd := op_kind
  by_cases h3 : x1 = 3
  · subst h3
    have HMT := hidden (show mt P Q = ((3, x2, x3), zO) by unfold Ol.mt; rw [hx]; exact if_pos rfl)
    have HP := hidden (show nxP P Q = P.tail by unfold nxP; rw [hx]; exact if_pos rfl)
    have HQ := hidden (show nxQ P Q = Q by unfold nxQ; rw [hx]; exact if_pos rfl)
    have HPT := hidden (show onn P 1 = P.tail by
      cases P with
      | nil => cases hx
      | cons x P => 
        have : x.1 = 3 := by show (hdP (x :: P)).1 = 3; rw [hx]
        rw [onn_cons, if_neg (fun h => by omega)]; rfl)
    clear hx hy hA1 hA2
    go_enter Try.func37, Try.ntmps37
    go_wp2_with fail
    refine (cnextR_any w0 b1 P W1 H1.out HB.out).mono ?_
    rintro e w2 ⟨rfl, hb2⟩
    rw [HX.out]
    unfold opV
    have H12 := hidden (H1.out.later hb2)
    have H22 := hidden (H2.out.later hb2)
    have HB2 := hidden (HB.out.trans (hb2.mono HB.out.size))
    have HBT2 := hidden (HBT.out.below hb2)
    have HM2 := hidden (HM.out.later hb2)
    clear H1 H2 HB HBT HM hb2
    go_wp2_with fail
    refine (cpassR_any w0 b1 P 1 w2 H12.out HB2.out (by omega) (by rw [HX.out]; simp [lng])).mono ?_
    rintro e w3 ⟨rfl, hb3, hR3⟩
    rw [HX.out, show psO (3, x2, x3) 1 = (3, x2, x3) from rfl]
    unfold opV
    rw [HPT.out] at hR3
    have H23 := hidden (H22.out.but hb3 (Ne.symm hne))
    have HR3 := hidden hR3
    have HM3 := hidden (HM2.out.but hb3 (Ne.symm n1))
    have HBT3 := hidden (HBT2.out.one hb3)
    obtain ⟨q0, q1, q2, q3, q4, q5⟩ := HM3.out.cells
    have qf : ∀ i, w3.frozen? ⟨W.heap.size, i, none⟩ = false := HM3.out.thaw
    clear H12 H22 HB2 HBT2 HM2 hb3 hR3
    go_wp2_with fail
    refine bodyPost_ret (results_mt rfl _ _ W.heap.size (.int .i64 3) (.int .i64 x2) (.string ⟨x3.toArray⟩) (.int .i64 0) (.int .i64 0) (.string ⟨#[]⟩) rfl (by (with_reducible (repeat (first | exact HM3.out | apply MtC.set0 | apply MtC.set1 | apply MtC.set2 | apply MtC.set3 | apply MtC.set4 | apply MtC.set5 | apply MtC.alloc | apply MtC.other | apply MtC.drewN | assumption | omega))))) rfl ?_
    refine ⟨by rw [HMT.out]; rfl, by (with_reducible (repeat (first | exact HBT3.out | apply But2.setNew | apply But2.alloc | exact Nat.le_refl _ | assumption | omega))), ?_, ?_⟩
    · rw [HP.out]; (with_reducible (repeat (first | exact HR3.out | apply RL.other | exact Ne.symm ‹_› | assumption | omega)))
    · rw [HQ.out]; (with_reducible (repeat (first | exact H23.out | apply RL.other | exact Ne.symm ‹_› | assumption | omega)))
  have k3 : (x1 == 3) = false := by simpa using h3
  by_cases h4 : y1 = 4
  · subst h4
    have HMT := hidden (show mt P Q = (zO, (4, y2, y3)) by unfold Ol.mt; rw [hx, hy]; exact (if_neg h3).trans (if_pos rfl))
    have HP := hidden (show nxP P Q = P by unfold nxP; rw [hx, hy]; exact (if_neg h3).trans (if_pos rfl))
    have HQ := hidden (show nxQ P Q = Q.tail by unfold nxQ; rw [hx, hy]; exact (if_neg h3).trans (if_pos rfl))
    have HPT := hidden (show onn Q 1 = Q.tail by
      cases Q with
      | nil => cases hy
      | cons x P => 
        have : x.1 = 4 := by show (hdP (x :: P)).1 = 4; rw [hy]
        rw [onn_cons, if_neg (fun h => by omega)]; rfl)
    clear hx hy hA1 hA2
    go_enter Try.func37, Try.ntmps37
    go_wp2_with fail
    refine (cnextR_any w0 b1 P W1 H1.out HB.out).mono ?_
    rintro e w2 ⟨rfl, hb2⟩
    rw [HX.out]
    unfold opV
    have H12 := hidden (H1.out.later hb2)
    have H22 := hidden (H2.out.later hb2)
    have HB2 := hidden (HB.out.trans (hb2.mono HB.out.size))
    have HBT2 := hidden (HBT.out.below hb2)
    have HM2 := hidden (HM.out.later hb2)
    clear H1 H2 HB HBT HM hb2
    go_wp2_with fail
    refine (cnextR_any w0 b2 Q w2 H22.out HB2.out).mono ?_
    rintro e w4 ⟨rfl, hb2⟩
    rw [HY.out]
    unfold opV
    have H14 := hidden (H12.out.later hb2)
    have H24 := hidden (H22.out.later hb2)
    have HB4 := hidden (HB2.out.trans (hb2.mono HB2.out.size))
    have HBT4 := hidden (HBT2.out.below hb2)
    have HM4 := hidden (HM2.out.later hb2)
    clear H12 H22 HB2 HBT2 HM2 hb2
    go_wp2_with fail
    refine (cpassR_any w0 b2 Q 1 w4 H24.out HB4.out (by omega) (by rw [HY.out]; simp [lng])).mono ?_
    rintro e w3 ⟨rfl, hb3, hR3⟩
    rw [HY.out, show psO (4, y2, y3) 1 = (4, y2, y3) from rfl]
    unfold opV
    rw [HPT.out] at hR3
    have H23 := hidden (H14.out.but hb3 hne)
    have HR3 := hidden hR3
    have HM3 := hidden (HM4.out.but hb3 (Ne.symm n2))
    have HBT3 := hidden (HBT4.out.two hb3)
    obtain ⟨q0, q1, q2, q3, q4, q5⟩ := HM3.out.cells
    have qf : ∀ i, w3.frozen? ⟨W.heap.size, i, none⟩ = false := HM3.out.thaw
    clear H14 H24 HB4 HBT4 HM4 hb3 hR3
    go_wp2_with fail
    refine bodyPost_ret (results_mt rfl _ _ W.heap.size (.int .i64 0) (.int .i64 0) (.string ⟨#[]⟩) (.int .i64 4) (.int .i64 y2) (.string ⟨y3.toArray⟩) rfl (by (with_reducible (repeat (first | exact HM3.out | apply MtC.set0 | apply MtC.set1 | apply MtC.set2 | apply MtC.set3 | apply MtC.set4 | apply MtC.set5 | apply MtC.alloc | apply MtC.other | apply MtC.drewN | assumption | omega))))) rfl ?_
    refine ⟨by rw [HMT.out]; rfl, by (with_reducible (repeat (first | exact HBT3.out | apply But2.setNew | apply But2.alloc | exact Nat.le_refl _ | assumption | omega))), ?_, ?_⟩
    · rw [HP.out]; (with_reducible (repeat (first | exact H23.out | apply RL.other | exact Ne.symm ‹_› | assumption | omega)))
    · rw [HQ.out]; (with_reducible (repeat (first | exact HR3.out | apply RL.other | exact Ne.symm ‹_› | assumption | omega)))
  have k4 : (y1 == 4) = false := by simpa using h4
  have HMT := hidden (show mt P Q = (psO (x1, x2, x3) (mtN P Q), psO (y1, y2, y3) (mtN P Q)) by unfold Ol.mt; rw [hx, hy]; exact (if_neg h3).trans (if_neg h4))
  have HP := hidden (show nxP P Q = onn P (mtN P Q) by unfold nxP; rw [hx, hy]; exact (if_neg h3).trans (if_neg h4))
  have HQ := hidden (show nxQ P Q = onn Q (mtN P Q) by unfold nxQ; rw [hx, hy]; exact (if_neg h3).trans (if_neg h4))
  obtain ⟨m1, hm1⟩ : ∃ m, lng (x1, x2, x3) = m := ⟨_, rfl⟩
  obtain ⟨m2, hm2⟩ : ∃ m, lng (y1, y2, y3) = m := ⟨_, rfl⟩
  have HM1 := hidden hm1
  have HM2' := hidden hm2
  have hn := mtN_pos hA1 hA2
  obtain ⟨n, hn0⟩ : ∃ n, mtN P Q = n := ⟨_, rfl⟩
  have hnm : n = min m1 m2 := by rw [← hn0, ← hm1, ← hm2, ← hx, ← hy]; rfl
  rw [hn0] at hn HMT HP HQ
  obtain ⟨hn1, hn2⟩ := hn
  have HN := hidden hnm
  have hle1 : n ≤ m1 := by omega
  have hle2 : n ≤ m2 := by omega
  have HL1 := hidden (show n ≤ lng (hdP P) by rw [hx, hm1]; exact hle1)
  have HL2 := hidden (show n ≤ lng (hdP Q) by rw [hy, hm2]; exact hle2)
  obtain ⟨⟨s1, s2, s3⟩, hs⟩ : ∃ s, psO (x1, x2, x3) n = s := ⟨_, rfl⟩
  obtain ⟨⟨t1, t2, t3⟩, ht⟩ : ∃ s, psO (y1, y2, y3) n = s := ⟨_, rfl⟩
  rw [hs, ht] at HMT
  have HS := hidden hs
  have HT := hidden ht
  clear hx hy hA1 hA2 hm1 hm2 hn0 hs ht hle1 hle2 hnm
  go_enter Try.func37, Try.ntmps37
  go_wp2_with fail
  refine (cnextR_any w0 b1 P W1 H1.out HB.out).mono ?_
  rintro e w2 ⟨rfl, hb2⟩
  rw [HX.out]
  unfold opV
  have H12 := hidden (H1.out.later hb2)
  have H22 := hidden (H2.out.later hb2)
  have HB2 := hidden (HB.out.trans (hb2.mono HB.out.size))
  have HBT2 := hidden (HBT.out.below hb2)
  have HM2 := hidden (HM.out.later hb2)
  clear H1 H2 HB HBT HM hb2
  go_wp2_with fail
  refine (cnextR_any w0 b2 Q w2 H22.out HB2.out).mono ?_
  rintro e w4 ⟨rfl, hb2⟩
  rw [HY.out]
  unfold opV
  have H14 := hidden (H12.out.later hb2)
  have H24 := hidden (H22.out.later hb2)
  have HB4 := hidden (HB2.out.trans (hb2.mono HB2.out.size))
  have HBT4 := hidden (HBT2.out.below hb2)
  have HM4 := hidden (HM2.out.later hb2)
  clear H12 H22 HB2 HBT2 HM2 hb2
  go_wp2_with fail
  refine (cnextR_any w0 b1 P w4 H14.out HB4.out).mono ?_
  rintro e w5 ⟨rfl, hb2⟩
  rw [HX.out]
  have H15 := hidden (H14.out.later hb2)
  have H25 := hidden (H24.out.later hb2)
  have HB5 := hidden (HB4.out.trans (hb2.mono HB4.out.size))
  have HBT5 := hidden (HBT4.out.below hb2)
  have HM5 := hidden (HM4.out.later hb2)
  clear H14 H24 HB4 HBT4 HM4 hb2
  have hov : opV (x1, x2, x3) = .agg #[.int .i64 x1, .int .i64 x2, .string ⟨x3.toArray⟩] := rfl
  have hov2 : opV (y1, y2, y3) = .agg #[.int .i64 y1, .int .i64 y2, .string ⟨y3.toArray⟩] := rfl
  rw [hov]
  go_wp2_with fail
  rw [← hov]
  refine (clong_any (x1, x2, x3) w5).mono ?_
  rintro e w6 ⟨rfl, hb2⟩
  rw [HM1.out]
  have H16 := hidden (H15.out.later hb2)
  have H26 := hidden (H25.out.later hb2)
  have HB6 := hidden (HB5.out.trans (hb2.mono HB5.out.size))
  have HBT6 := hidden (HBT5.out.below hb2)
  have HM6 := hidden (HM5.out.later hb2)
  clear H15 H25 HB5 HBT5 HM5 hb2
  go_wp2_with fail
  refine (cnextR_any w0 b2 Q w6 H26.out HB6.out).mono ?_
  rintro e w7 ⟨rfl, hb2⟩
  rw [HY.out]
  have H17 := hidden (H16.out.later hb2)
  have H27 := hidden (H26.out.later hb2)
  have HB7 := hidden (HB6.out.trans (hb2.mono HB6.out.size))
  have HBT7 := hidden (HBT6.out.below hb2)
  have HM7 := hidden (HM6.out.later hb2)
  clear H16 H26 HB6 HBT6 HM6 hb2
  rw [hov2]
  go_wp2_with fail
  rw [← hov2]
  refine (clong_any (y1, y2, y3) w7).mono ?_
  rintro e w8 ⟨rfl, hb2⟩
  rw [HM2'.out]
  have H18 := hidden (H17.out.later hb2)
  have H28 := hidden (H27.out.later hb2)
  have HB8 := hidden (HB7.out.trans (hb2.mono HB7.out.size))
  have HBT8 := hidden (HBT7.out.below hb2)
  have HM8 := hidden (HM7.out.later hb2)
  clear H17 H27 HB7 HBT7 HM7 hb2
  go_upto_region 6 with fail
  rw [show min m1 m2 = n from HN.out.symm]
  go_wp2_with fail
  refine (cpassR_any w0 b1 P n w8 H18.out HB8.out hn1 HL1.out).mono ?_
  rintro e w9 ⟨rfl, hb3, hR3⟩
  rw [HX.out, HS.out]
  unfold opV
  have H19 := hidden hR3
  have H29 := hidden (H28.out.but hb3 (Ne.symm hne))
  have HM9 := hidden (HM8.out.but hb3 (Ne.symm n1))
  have HBT9 := hidden (HBT8.out.one hb3)
  have HB9 := hidden (But.below HB8.out hb3 hl1 HB8.out.size)
  clear H18 H28 HB8 HBT8 HM8 hb3 hR3
  go_wp2_with fail
  refine (cpassR_any w0 b2 Q n w9 H29.out HB9.out hn1 HL2.out).mono ?_
  rintro e w10 ⟨rfl, hb3, hR3⟩
  rw [HY.out, HT.out]
  unfold opV
  have H1a := hidden (H19.out.but hb3 hne)
  have H2a := hidden hR3
  have HMa := hidden (HM9.out.but hb3 (Ne.symm n2))
  have HBTa := hidden (HBT9.out.two hb3)
  obtain ⟨q0, q1, q2, q3, q4, q5⟩ := HMa.out.cells
  have qf : ∀ i, w10.frozen? ⟨W.heap.size, i, none⟩ = false := HMa.out.thaw
  clear H19 H29 HB9 HBT9 HM9 hb3 hR3
  go_wp2_with fail
  refine bodyPost_ret (results_mt rfl _ _ W.heap.size (.int .i64 s1) (.int .i64 s2) (.string ⟨s3.toArray⟩) (.int .i64 t1) (.int .i64 t2) (.string ⟨t3.toArray⟩) rfl (by (with_reducible (repeat (first | exact HMa.out | apply MtC.set0 | apply MtC.set1 | apply MtC.set2 | apply MtC.set3 | apply MtC.set4 | apply MtC.set5 | apply MtC.alloc | apply MtC.other | apply MtC.drewN | assumption | omega))))) rfl ?_
  refine ⟨by rw [HMT.out]; rfl, by (with_reducible (repeat (first | exact HBTa.out | apply But2.setNew | apply But2.alloc | exact Nat.le_refl _ | assumption | omega))), ?_, ?_⟩
  · rw [HP.out]; (with_reducible (repeat (first | exact H1a.out | apply RL.other | exact Ne.symm ‹_› | assumption | omega)))
  · rw [HQ.out]; (with_reducible (repeat (first | exact H2a.out | apply RL.other | exact Ne.symm ‹_› | assumption | omega)))

end Go.Proofs.Ytcdjemheokmglab

namespace Go.Proofs.Ytcdjemheokmglab
open Go.RowKit Go.Proofs.Ytcdjemheokmglab.Ln Go.Proofs.Ytcdjemheokmglab.Ol

theorem cmeetings_any (a1 a2 : Option Addr) (n1 n2 c1 c2 : Nat) (W : World) :
    Calls Try.prog 24 #[.slice a1 n1 c1, .slice a2 n2 c2] W fun e w' => e = .returned (.func (.func 35) #[] #[.pointer (some ⟨W.heap.size, 0, none⟩), .pointer (some ⟨W.heap.size + 1, 0, none⟩)]) ∧ w' = (W.alloc (.cells #[.slice a1 n1 c1] 22)).alloc (.cells #[.slice a2 n2 c2] 22) := by
  go_enter Try.func24, Try.ntmps24
  go_wp2
  go_ret
  exact ⟨rfl, rfl⟩

theorem RowC.new (W : World) (v : Value) (g : Int) : RowC (W.alloc (.cells #[v, .int .i64 g] 52)) W.heap.size v g := World.alloc_heap_new W _

set_option maxHeartbeats 4000000 in
theorem cseq1_any (w0 : World) (vp vq : Value) (p q : List Oq) (c l : Nat) (J : List Oq → List Oq → Option (Nat × Nat × List Oq × List Oq) → World → Prop) (Jx : World → Prop)
    (hp : OpsAt w0 vp p) (hq : OpsAt w0 vq q) (hAp : Al p) (hAq : Al q)
    (hE : ∀ P Q r W, J P Q r W → Below w0.heap.size w0 W)
    (hE0 : ∀ P Q W, J P Q none W → Boxed W c 22 vp ∧ Boxed W (c + 1) 22 vq)
    (hE2 : ∀ P Q b1 b2 P' Q' W, J P Q (some (b1, b2, P', Q')) W → RL w0 W b1 P' ∧ RL w0 W b2 Q')
    (hst0 : ∀ P Q b1 b2 W W', J P Q none W → Below W.heap.size W W' → W.heap.size ≤ b1 → W.heap.size ≤ b2 → b1 ≠ b2 → RL w0 W' b1 P → RL w0 W' b2 Q → J P Q (some (b1, b2, P, Q)) W')
    (hst2 : ∀ P Q b1 b2 P' Q' P'' Q'' W W', J P Q (some (b1, b2, P', Q')) W → But2 b1 b2 W W' → RL w0 W' b1 P'' → RL w0 W' b2 Q'' → J P Q (some (b1, b2, P'', Q'')) W')
    (hY : ∀ P Q b1 b2 W, ¬ (P = [] ∧ Q = []) → J P Q (some (b1, b2, nxP P Q, nxQ P Q)) W → ∀ m, YieldAt Fence.wide m Try.prog l #[mV (Ol.mt P Q)] W fun e W' => (e = .returned (.bool true) ∧ J (nxP P Q) (nxQ P Q) (some (b1, b2, nxP P Q, nxQ P Q)) W') ∨ (e = .returned (.bool false) ∧ Jx W'))
    (W : World) (h0 : J p q none W) :
    Calls Try.prog 35 #[.func (.yield l) #[] #[], .pointer (some ⟨c, 0, none⟩), .pointer (some ⟨c + 1, 0, none⟩)] W fun e W' => (∃ v, e = .returned v) ∧ ((∃ r, J [] [] r W') ∨ Jx W') := by
  have HE := hidden hE
  have HE2 := hidden hE2
  have HST2 := hidden hst2
  have HST0 := hidden hst0
  have HY := hidden hY
  have H0 := hidden h0
  obtain ⟨k1, k2⟩ := hE0 _ _ _ h0
  have hb0 := hE _ _ _ _ h0
  have z1 := k1.cell
  have z2 := k2.cell
  have HP := hidden hp
  have HQ := hidden hq
  have HAP := hidden hAp
  have HAQ := hidden hAq
  have hs0 := hb0.size
  obtain ⟨a1, c1, rfl⟩ := hp.shape
  obtain ⟨a2, c2, rfl⟩ := hq.shape
  have hl1 := k1.lt
  have hl2 := k2.lt
  have HJ1 := hidden (show J p q (some (W.heap.size, W.heap.size + 1, p, q)) ((W.alloc (.cells #[.slice a1 p.length c1, .int .i64 0] 52)).alloc (.cells #[.slice a2 q.length c2, .int .i64 0] 52)).drew ∧ W.heap.size ≠ W.heap.size + 1 ∧ w0.heap.size ≤ W.heap.size by
    refine ⟨hst0 _ _ _ _ _ _ h0 ((bel_alloc (bel_alloc (Below.refl _ _) _) _).drew) (Nat.le_refl _) (by omega) (by omega) ?_ ?_, by omega, by omega⟩
    · exact ⟨_, p, 0, ((RowC.new W _ 0).alloc _).drew, hp, gone_al hAp, hAp, curO_zero⟩
    · have := (RowC.new (W.alloc (.cells #[.slice a1 p.length c1, .int .i64 0] 52)) (.slice a2 q.length c2) 0).drew
      rw [World.size_alloc] at this
      exact ⟨_, q, 0, this, hq, gone_al hAq, hAq, curO_zero⟩)
  have HJ2 := hidden (show J p q (some (W.heap.size + 1, W.heap.size, p, q)) ((W.alloc (.cells #[.slice a2 q.length c2, .int .i64 0] 52)).alloc (.cells #[.slice a1 p.length c1, .int .i64 0] 52)).drew ∧ W.heap.size + 1 ≠ W.heap.size ∧ w0.heap.size ≤ W.heap.size + 1 by
    refine ⟨hst0 _ _ _ _ _ _ h0 ((bel_alloc (bel_alloc (Below.refl _ _) _) _).drew) (by omega) (Nat.le_refl _) (by omega) ?_ ?_, by omega, by omega⟩
    · have := (RowC.new (W.alloc (.cells #[.slice a2 q.length c2, .int .i64 0] 52)) (.slice a1 p.length c1) 0).drew
      rw [World.size_alloc] at this
      exact ⟨_, p, 0, this, hp, gone_al hAp, hAp, curO_zero⟩
    · exact ⟨_, q, 0, ((RowC.new W _ 0).alloc _).drew, hq, gone_al hAq, hAq, curO_zero⟩)
  clear hE hE0 hE2 hst0 hst2 hY h0 k1 k2 hb0 hp hq hAp hAq
  go_enter Try.func35, Try.ntmps35
  go_upto_region 0 with fail
  go_region
  all_goals first
    | (generalize hW2 : World.drew _ = W2; have HJ := hidden (show J p q (some (W.heap.size, W.heap.size + 1, p, q)) W2 ∧ W.heap.size ≠ W.heap.size + 1 ∧ w0.heap.size ≤ W.heap.size by rw [← hW2]; exact HJ1.out); clear hW2 HJ1 HJ2 z1 z2 hs0 hl1 hl2; generalize W.heap.size + 1 = b2 at HJ ⊢; generalize W.heap.size = b1 at HJ ⊢)
    | (generalize hW2 : World.drew _ = W2; have HJ := hidden (show J p q (some (W.heap.size + 1, W.heap.size, p, q)) W2 ∧ W.heap.size + 1 ≠ W.heap.size ∧ w0.heap.size ≤ W.heap.size + 1 by rw [← hW2]; exact HJ2.out); clear hW2 HJ1 HJ2 z1 z2 hs0 hl1 hl2; generalize W.heap.size + 1 = b1 at HJ ⊢; generalize W.heap.size = b2 at HJ ⊢)
  all_goals
    have HNE := hidden HJ.out.2.1
    have HLE := hidden HJ.out.2.2
    have HST := hidden (show ∃ P Q, J P Q (some (b1, b2, P, Q)) W2 ∧ P.length + Q.length ≤ p.length + q.length from ⟨p, q, HJ.out.1, Nat.le_refl _⟩)
    clear HJ
    go_wp2_with fail
    go_loopg [10] (p.length + q.length) (fun k _ wr => Hid (∃ P Q, J P Q (some (b1, b2, P, Q)) wr ∧ P.length + Q.length ≤ k))
    case atStart => exact HST.out
    case round =>
      clear HST
      obtain ⟨P, Q, hJ, hk⟩ := hrel.out
      clear hrel
      have HJ := hidden hJ
      have HK := hidden hk
      have HR := hidden (HE2.out _ _ _ _ _ _ _ hJ)
      have HA := hidden (HE2.out _ _ _ _ _ _ _ hJ).1.al
      have HA2 := hidden (HE2.out _ _ _ _ _ _ _ hJ).2.al
      have HB := hidden (HE.out _ _ _ _ hJ)
      clear hJ hk
      by_cases hne : P = [] ∧ Q = []
      · obtain ⟨rfl, rfl⟩ := hne
        have HJE := hidden (show ∃ r, J [] [] r wr from ⟨_, HJ.out⟩)
        go_wp2_with fail
        refine (cendedR_any w0 b1 [] wr HR.out.1).mono ?_
        rintro e w' ⟨rfl, hw⟩
        subst w'
        rw [show ([] : List Oq).isEmpty = true from rfl]
        go_wp2_with fail
        refine (cendedR_any w0 b2 [] wr HR.out.2).mono ?_
        rintro e w' ⟨rfl, hw⟩
        subst w'
        rw [show ([] : List Oq).isEmpty = true from rfl]
        go_wp2_with fail
        go_end0
        exact ⟨⟨_, rfl⟩, Or.inl HJE.out⟩
      · have HNN := hidden hne
        have HLT := hidden (nx_len HA.out HA2.out hne)
        obtain ⟨bp, hbp⟩ : ∃ b, P.isEmpty = b := ⟨_, rfl⟩
        obtain ⟨bq, hbq⟩ : ∃ b, Q.isEmpty = b := ⟨_, rfl⟩
        have HBP := hidden hbp
        have HBQ := hidden hbq
        have hpq : bp = true → bq = false := fun h => by
          subst hbp hbq
          cases Q with
          | nil => exact absurd ⟨List.isEmpty_iff.1 h, rfl⟩ hne
          | cons y Q => rfl
        have HPQ := hidden hpq
        clear hne hbp hbq hpq
        go_wp2_with fail
        refine (cendedR_any w0 b1 P wr HR.out.1).mono ?_
        rintro e w' ⟨rfl, hw⟩
        subst w'
        rw [HBP.out]
        cases bp with
        | true =>
          go_wp2_with fail
          refine (cendedR_any w0 b2 Q wr HR.out.2).mono ?_
          rintro e w' ⟨rfl, hw⟩
          subst w'
          rw [HBQ.out, HPQ.out (by first | rfl | trivial)]
          go_upto_region 2 with fail
          refine (wpIn_wide (n := 3)).1 ?_
          gi_wp2
          refine ⟨trivial, ?_⟩
          refine (callsIn_wide.2 (cmeet_any w0 b1 b2 P Q wr HR.out.1 HR.out.2 HB.out HNE.out HLE.out)).mono ?_
          rintro e w2 ⟨rfl, hbt, hr1, hr2⟩
          have HJ3 := hidden (HST2.out _ _ _ _ _ _ _ _ _ _ HJ.out hbt hr1 hr2)
          clear hbt hr1 hr2
          obtain ⟨fn, tmps, assign, body, hy, hR⟩ := HY.out P Q b1 b2 w2 HNN.out HJ3.out (3 - 1)
          unfold mV at hy ⊢
          gi_wp2
          refine hR.mono ?_
          clear hy hR HJ3
          rintro e w4 (⟨rfl, hJ4⟩ | ⟨rfl, hx4⟩)
          · have HJ4 := hidden hJ4
            clear hJ4
            gi_wp2
            go_wp2_with fail
            go_roundg (gk - 1)
            case rel => exact ⟨_, _, HJ4.out, by have := HLT.out; have := HK.out; omega⟩
            case measure => have := HLT.out; have := HK.out; omega
          · have HX4 := hidden hx4
            clear hx4
            gi_wp2
            go_wp2_with fail
            refine bodyPost_ret (results_none rfl _ _ _) rfl ?_
            exact ⟨⟨_, rfl⟩, Or.inr HX4.out⟩
        | false =>
          go_upto_region 2 with fail
          refine (wpIn_wide (n := 3)).1 ?_
          gi_wp2
          refine ⟨trivial, ?_⟩
          refine (callsIn_wide.2 (cmeet_any w0 b1 b2 P Q wr HR.out.1 HR.out.2 HB.out HNE.out HLE.out)).mono ?_
          rintro e w2 ⟨rfl, hbt, hr1, hr2⟩
          have HJ3 := hidden (HST2.out _ _ _ _ _ _ _ _ _ _ HJ.out hbt hr1 hr2)
          clear hbt hr1 hr2
          obtain ⟨fn, tmps, assign, body, hy, hR⟩ := HY.out P Q b1 b2 w2 HNN.out HJ3.out (3 - 1)
          unfold mV at hy ⊢
          gi_wp2
          refine hR.mono ?_
          clear hy hR HJ3
          rintro e w4 (⟨rfl, hJ4⟩ | ⟨rfl, hx4⟩)
          · have HJ4 := hidden hJ4
            clear hJ4
            gi_wp2
            go_wp2_with fail
            go_roundg (gk - 1)
            case rel => exact ⟨_, _, HJ4.out, by have := HLT.out; have := HK.out; omega⟩
            case measure => have := HLT.out; have := HK.out; omega
          · have HX4 := hidden hx4
            clear hx4
            gi_wp2
            go_wp2_with fail
            refine bodyPost_ret (results_none rfl _ _ _) rfl ?_
            exact ⟨⟨_, rfl⟩, Or.inr HX4.out⟩

end Go.Proofs.Ytcdjemheokmglab
