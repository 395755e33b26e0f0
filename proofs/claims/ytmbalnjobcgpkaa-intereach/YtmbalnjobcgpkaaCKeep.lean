
/-
  What is kept while two lists of steps are gone through: where they lie, and the row that is made; conditions: the lists' lengths.
-/
import Derived.Test.YtmbalnjobcgpkaaADoneOpen
import Derived.Test.YtmbalnjobcgpkaaCMore
namespace Go.Proofs.Ytmbalnjobcgpkaa
open Go.RowKit Go.Proofs.Ytmbalnjobcgpkaa.Ln Go.Proofs.Ytmbalnjobcgpkaa.Ol

/-- the rest of steps -/
theorem OpsAt.rest2 {w : World} {ao : Option Addr} {n cap k : Nat} {xs : List Oq} (h : OpsAt w (.slice ao n cap) xs) (hn : n = xs.length) (hk : k ≤ n) : OpsAt w (.slice (if cap = k then ao else Option.map (fun x => x.add (k * 3)) ao) (n - k) (cap - k)) (xs.drop k) := by
  by_cases h0 : n - k = 0
  · rw [h0, List.drop_of_length_le (by omega)]
    refine OpsAt.nil _ _ _ fun e => ?_
    rcases h with ⟨_, a, c, e2, e3⟩ | ⟨b, o, c, e2, _⟩
    · cases e2
      by_cases hc : cap = k
      · omega
      · rw [if_neg hc] at e
        have : ao = none := by cases ao with | none => rfl | some _ => cases e
        have := e3 this
        omega
    · cases e2
      by_cases hc : cap = k
      · omega
      · rw [if_neg hc] at e; cases e
  · rcases h with ⟨rfl, a, c, e2, e3⟩ | ⟨b, o, c, e2, h2, h3, h4⟩
    · simp at hn; omega
    · cases e2
      have hc : ¬ cap = k := by omega
      rw [if_neg hc]
      refine Or.inr ⟨b, o + k * 3, cap - k, ?_, by rw [List.length_drop]; omega, h3, fun j e he => ?_⟩
      · rw [List.length_drop]; simp [addr_add]
      · rw [List.getElem?_drop] at he
        have := h4 (k + j) e he
        rw [show o + (k + j) * 3 = o + k * 3 + j * 3 by omega] at this
        exact this
theorem OpsAt.head {w : World} {ao : Option Addr} {n cap k : Nat} {xs : List Oq} (h : OpsAt w (.slice ao n cap) xs) (hn : n = xs.length) (hk : k ≤ n) : OpsAt w (.slice ao k cap) (xs.take k) := by
  rcases h with ⟨rfl, a, c, e2, e3⟩ | ⟨b, o, c, e2, h2, h3, h4⟩
  · cases e2
    obtain rfl : k = 0 := by simpa using hk
    exact OpsAt.nil _ _ _ e3
  · cases e2
    by_cases h0 : k = 0
    · subst h0; exact OpsAt.nil _ _ _
    · refine Or.inr ⟨b, o, cap, by rw [List.length_take]; congr 1; omega, by rw [List.length_take]; omega, h3, fun j e he => ?_⟩
      rw [List.getElem?_take] at he
      split at he
      · exact h4 j e he
      · cases he
theorem OpsAt.room {w : World} {ao : Option Addr} {n cap : Nat} {xs : List Oq} (h : OpsAt w (.slice ao n cap) xs) : n ≤ cap := by
  rcases h with ⟨_, a, c, e, _⟩ | ⟨b, o, c, e, h2, _⟩
  · cases e; exact Nat.zero_le _
  · cases e; exact h2
/-- a row of one step, made at once, is one's own -/
theorem owns_one {w : World} {B : Nat} (hB : B ≤ w.heap.size) (x1 x2 : Int) (x3 : Tx) : (w.alloc (opO x1 x2 x3)).ownsRow B 37 3 (.slice (some ⟨w.heap.size, 0, none⟩) 1 1) ([(x1, x2, x3)] : List Oq).length (cellsO [(x1, x2, x3)]) :=
  ⟨rfl, Or.inr ⟨w.heap.size, 1, _, rfl, hB, World.alloc_heap_new w _, Nat.le_refl _, by unfold maxLen; omega, rfl, rfl⟩⟩

/-- the cells of steps with whose they are -/
def cellsB : List (Oq × Int) → List Value
  | [] => []
  | e :: l => Z e.1.1 :: Z e.1.2.1 :: S e.1.2.2 :: Z e.2 :: cellsB l
theorem cellsB_len (l : List (Oq × Int)) : (cellsB l).length = l.length * 4 := by
  induction l with
  | nil => rfl
  | cons r l ih => simp [cellsB, ih]; omega
theorem cellsB_app (a b : List (Oq × Int)) : cellsB (a ++ b) = cellsB a ++ cellsB b := by
  induction a with
  | nil => rfl
  | cons r l ih => simp [cellsB, ih]
theorem cellsB_at (l : List (Oq × Int)) : ∀ (j : Nat) e, l[j]? = some e → (cellsB l)[j * 4]? = some (Z e.1.1) ∧ (cellsB l)[j * 4 + 1]? = some (Z e.1.2.1) ∧ (cellsB l)[j * 4 + 2]? = some (S e.1.2.2) ∧ (cellsB l)[j * 4 + 3]? = some (Z e.2) := by
  induction l with
  | nil => intro j r h; simp at h
  | cons x l ih =>
    intro j r h
    cases j with
    | zero => simp at h; subst h; exact ⟨rfl, rfl, rfl, rfl⟩
    | succ j =>
      have := ih j r (by simpa using h)
      rw [show (j + 1) * 4 = j * 4 + 1 + 1 + 1 + 1 by omega, show j * 4 + 1 + 1 + 1 + 1 + 1 = (j * 4 + 1) + 1 + 1 + 1 + 1 by omega, show j * 4 + 1 + 1 + 1 + 1 + 2 = (j * 4 + 2) + 1 + 1 + 1 + 1 by omega, show j * 4 + 1 + 1 + 1 + 1 + 3 = (j * 4 + 3) + 1 + 1 + 1 + 1 by omega]
      simp only [cellsB, List.getElem?_cons_succ]
      exact this
/-- steps with whose they are lie in memory -/
def ByAt (w : World) (v : Value) (xs : List (Oq × Int)) : Prop :=
  (xs = [] ∧ ∃ ao cap, v = .slice ao 0 cap ∧ (ao = none → cap = 0)) ∨ ∃ b o cap, v = .slice (some ⟨b, o, none⟩) xs.length cap ∧ xs.length ≤ cap ∧ b < w.heap.size ∧ ∀ (j : Nat) e, xs[j]? = some e → w.cell? ⟨b, o + j * 4, none⟩ = some (Z e.1.1) ∧ w.cell? ⟨b, o + j * 4 + 1, none⟩ = some (Z e.1.2.1) ∧ w.cell? ⟨b, o + j * 4 + 2, none⟩ = some (S e.1.2.2) ∧ w.cell? ⟨b, o + j * 4 + 3, none⟩ = some (Z e.2)
theorem ByAt.later {w w' : World} {v : Value} {xs : List (Oq × Int)} (h : ByAt w v xs) (hb : Below w.heap.size w w') : ByAt w' v xs := by
  rcases h with h | ⟨b, o, cap, h1, h2, h3, h4⟩
  · exact Or.inl h
  · refine Or.inr ⟨b, o, cap, h1, h2, Nat.lt_of_lt_of_le h3 hb.size, fun j x hx => ?_⟩
    rw [hb.cell (p := ⟨b, o + j * 4, none⟩) h3, hb.cell (p := ⟨b, o + j * 4 + 1, none⟩) h3, hb.cell (p := ⟨b, o + j * 4 + 2, none⟩) h3, hb.cell (p := ⟨b, o + j * 4 + 3, none⟩) h3]
    exact h4 j x hx
theorem ByAt.shape {w : World} {v : Value} {xs : List (Oq × Int)} (h : ByAt w v xs) : ∃ ao cap, v = .slice ao xs.length cap := by
  rcases h with ⟨rfl, ao, cap, rfl, _⟩ | ⟨b, o, cap, rfl, _⟩
  · exact ⟨ao, cap, rfl⟩
  · exact ⟨_, cap, rfl⟩
theorem ByAt.open_ {w : World} {v : Value} {xs : List (Oq × Int)} (h : ByAt w v xs) : ∃ ao cap, v = .slice ao xs.length cap ∧ ∀ (j : Nat) x, xs[j]? = some x → ∃ b o, ao = some ⟨b, o, none⟩ ∧ xs.length ≤ cap ∧ b < w.heap.size ∧ (w.cell? ⟨b, o + j * 4, none⟩ = some (.int .i64 x.1.1) ∧ w.cell? ⟨b, o + j * 4 + 1, none⟩ = some (.int .i64 x.1.2.1) ∧ w.cell? ⟨b, o + j * 4 + 2, none⟩ = some (.string ⟨x.1.2.2.toArray⟩) ∧ w.cell? ⟨b, o + j * 4 + 3, none⟩ = some (.int .i64 x.2)) := by
  rcases h with ⟨rfl, ao, cap, rfl, _⟩ | ⟨b, o, cap, rfl, h1, h2, h3⟩
  · exact ⟨ao, cap, rfl, fun j x hx => by simp at hx⟩
  · exact ⟨_, cap, rfl, fun j x hx => ⟨b, o, rfl, h1, h2, h3 j x hx⟩⟩
theorem ByAt.of_owns {w : World} {B n : Nat} {v : Value} {xs : List (Oq × Int)} (h : w.ownsRow B 55 4 v n (cellsB xs)) : ByAt w v xs := by
  have hn : xs.length = n := by have := h.1; rw [cellsB_len] at this; omega
  rcases h.2 with ⟨rfl, h0⟩ | ⟨g, cap, cur, hv, hB, hg, hc, hm, hs, ht⟩
  · exact Or.inl ⟨List.eq_nil_of_length_eq_zero (by omega), none, 0, rfl, fun _ => rfl⟩
  · refine Or.inr ⟨g, 0, cap, by rw [hn]; exact hv, by omega, (Array.getElem?_eq_some_iff.1 hg).1, fun j r hr => ?_⟩
    have ⟨c1, c2, c3, c4⟩ := cellsB_at xs j r hr
    have d1 := h.cells (g := g) (by rw [hv]; rfl) (j * 4) _ c1
    have d2 := h.cells (g := g) (by rw [hv]; rfl) (j * 4 + 1) _ c2
    have d3 := h.cells (g := g) (by rw [hv]; rfl) (j * 4 + 2) _ c3
    have d4 := h.cells (g := g) (by rw [hv]; rfl) (j * 4 + 3) _ c4
    rw [addr_add] at d1 d2 d3 d4
    exact ⟨d1, by rw [Nat.add_assoc]; exact d2, by rw [Nat.add_assoc]; exact d3, by rw [Nat.add_assoc]; exact d4⟩
theorem Try.infoBy : (Try.prog.info? 55).map (fun i => (i.zero, i.size, i.bytes)) = some (some (.agg #[.int .i64 0, .int .i64 0, .string ⟨#[]⟩, .int .i64 0]), 4, 40) := by kernel_rfl
/-- a step with whose it is: its own block -/
abbrev byB (x1 x2 : Int) (x3 : Tx) (k : Int) : Obj := .cells #[.int .i64 x1, .int .i64 x2, .string ⟨x3.toArray⟩, .int .i64 k] 55
theorem wpList_append_by (w : World) {ops : Array Oper} {rest : List Oper} {o : Oper} {a : Act} {Q : Exit → Act → World → Prop} (hw : Region.wanted o (yielded ops a.tmps) = true) (s x : Operand)
    (ho : o.op = .call { callee := .builtin .append, args := #[s, x], argTypes := #[45, 45] }) (B : Nat) (v : Value) (xs : List (Oq × Int)) (x1 x2 : Int) (x3 : Tx) (k : Int) (w0 : World) (n0 : Nat) (hw0 : w = w0.alloc (byB x1 x2 x3 k)) (hn0 : w0.heap.size = n0) (hs : a.eval s = v) (hx : a.eval x = .slice (some ⟨n0, 0, none⟩) 1 1)
    (hown : w.ownsRow B 55 4 v xs.length (cellsB xs)) (hl : xs.length + 1 ≤ 1099511627776) (hB : B ≤ w.heap.size)
    (h : ∀ v' w', w'.ownsRow B 55 4 v' (xs.length + 1) (cellsB (xs ++ [((x1, x2, x3), k)])) → w.grownBy w' v.ownBlock → (v'.ownBlock = v.ownBlock ∨ v'.ownBlock = some w.heap.size) → wpList Try.prog ops Q rest (a.put o.dst v') w') : wpList Try.prog ops Q (o :: rest) a w := by
  obtain ⟨i0, hi, hz0, hz1, hz2⟩ := info_parts Try.infoBy
  refine BigFrame.wpList_want hw fun K hK => ?_
  obtain ⟨v', w', hr, h2, h3, _, h5⟩ := run_append_own_at (P := Try.prog) w B 45 o.type 55 i0 (.agg #[.int .i64 0, .int .i64 0, .string ⟨#[]⟩, .int .i64 0]) 4 40 Try.underlying45 hi hz0 hz1 hz2 rfl (by decide) v xs.length (cellsB xs) hown ⟨n0, 0, none⟩ 1 1 [.int .i64 x1, .int .i64 x2, .string ⟨x3.toArray⟩, .int .i64 k] rfl (fun j z hj => by
    subst hw0 hn0
    match j, hj with
    | 0, hj => simp at hj; subst hj; simp [Addr.add]
    | 1, hj => simp at hj; subst hj; simp [Addr.add]
    | 2, hj => simp at hj; subst hj; simp [Addr.add]
    | 3, hj => simp at hj; subst hj; simp [Addr.add]
    | (j + 4), hj => simp at hj) (fun u hu => by simp at hu; rcases hu with rfl | rfl | rfl | rfl <;> rfl) (by unfold maxLen; omega) (by omega) hB
  have hfin := hK _ _ (h v' w' (by rw [cellsB_app]; exact h2) h3 h5)
  unfold Oper.wp execOp
  simp only [ho, resolve, invoke, builtin, Sem.run_bind, Sem.run_pure, Result.andThen_ok, List.map_toArray, List.map_cons, List.map_nil, hs, hx, hr]
  exact hfin

end Go.Proofs.Ytmbalnjobcgpkaa

namespace Go.Proofs.Ytmbalnjobcgpkaa
open Go.RowKit Go.Proofs.Ytmbalnjobcgpkaa.Ln Go.Proofs.Ytmbalnjobcgpkaa.Ol

theorem far_cell {W W' : World} {g n cp : Nat} {v' : Value} (ha : Adds W W' (.slice (some ⟨g, 0, none⟩) n cp) v') {b i : Nat} (hb : b < W.heap.size) (hne : b ≠ g) {u : Value} (h : W.cell? ⟨b, i, none⟩ = some u) : W'.cell? ⟨b, i, none⟩ = some u :=
  (ha.1.cell_far ⟨b, i, none⟩ hb (fun e => by simp only [Value.ownBlock, Option.some.injEq] at e; exact hne e)).trans h

theorem fresh_own {B : Nat} {W W' : World} {g n cp : Nat} {v' : Value} {Q : Nat → Prop} (ha : Adds W W' (.slice (some ⟨g, 0, none⟩) n cp) v') (hB : B ≤ W.heap.size) (hg : B ≤ g := by first | exact Nat.le_refl _ | omega) : ∀ b, v'.ownBlock = some b → Q b ∨ B ≤ b := by
  intro b h
  rcases ha.2 with e | ⟨k, e, hk⟩
  · rw [e] at h
    simp only [Value.ownBlock, Option.some.injEq] at h
    exact Or.inr (by omega)
  · rw [e] at h
    cases h
    exact Or.inr (by omega)

set_option maxHeartbeats 4000000 in
theorem pon_any (n : Int) (v : Value) (xs : List Oq) (w : World) (hX : OpsAt w v xs) (hl : xs.length ≤ 1099511627776) (hn : 1 ≤ n) (hn2 : n ≤ 1099511627776) (hok : Ok xs) :
    Calls Try.prog 46 #[v, .int .i64 n] w fun e w' => ∃ v', e = .returned v' ∧ OpsAt w' v' (onn xs n) ∧ Below w.heap.size w w' ∧ (∀ b, v'.ownBlock = some b → v.ownBlock = some b ∨ w.heap.size ≤ b) := by
  have HX := hidden hX
  cases xs with
  | nil =>
    obtain ⟨ao, cap, rfl⟩ := hX.shape
    clear hX
    go_enter Try.func46, Try.ntmps46
    go_wp2_with fail
    go_ret
    exact ⟨_, rfl, HX.out, Below.refl _ _, fun b h => Or.inl h⟩
  | cons x l =>
    obtain ⟨x1, x2, x3⟩ := x
    obtain ⟨ao, cap, rfl, hc⟩ := hX.open_
    obtain ⟨b, o, hao, hcap, hb, hcc⟩ := hc 0 (x1, x2, x3) rfl
    subst hao
    obtain ⟨c1, c2, c3⟩ := three_later hb (Below.refl _ _) hcc
    rw [show o + 0 * 3 = o by omega] at c1 c2 c3
    simp only at c1 c2 c3
    have hx2 := (hok (x1, x2, x3) (by simp)).2
    simp only at hx2
    have hlen : ((x1, x2, x3) :: l : List Oq).length = l.length + 1 := rfl
    rw [hlen] at HX hcap hl ⊢
    obtain ⟨N, hN⟩ : ∃ N, l.length = N := ⟨_, rfl⟩
    rw [hN] at HX hl hcap ⊢
    have HN := hidden hN
    by_cases hcap1 : cap = 1
    · subst hcap1
      obtain rfl : N = 0 := by omega
      have hl0 : l = [] := List.eq_nil_of_length_eq_zero hN
      have HR := hidden (show OpsAt w (.slice (some ⟨b, o, none⟩) 0 0) l by rw [hl0]; exact OpsAt.nil _ _ _)
      clear hl0 hN
      clear hX hc hcc hlen
      by_cases h : x1 = 1 ∧ n < x2
      · have HO := hidden (show onn ((x1, x2, x3) :: l) n = (1, x2 - n, []) :: l by rw [onn_cons, if_pos h])
        obtain ⟨rfl, hlt⟩ := h
        have hd : decide (x2 > n) = true := by simp; omega
        have hd2 : decide (n < x2) = true := by simp; omega
        go_enter Try.func46, Try.ntmps46
        have hw1 : wrap64 (x2 - n) = x2 - n := by unfold wrap64; omega
        have hw2 : IntKind.i64.wrap (x2 - n) = x2 - n := by rw [IntKind.wrap_i64]; omega
        have hO1 := owns_one (w := w) (B := w.heap.size) (Nat.le_refl _) 1 (x2 - n) []
        have hR1 := HR.out.later (bel_alloc (Below.refl w.heap.size w) (opO 1 (x2 - n) []))
        have hll : ([(1, x2 - n, [])] : List Oq).length + l.length ≤ 4398046511104 := by rw [HN.out]; simp <;> omega
        have hne : b ≠ w.heap.size := by omega
        go_upto_region 4 with fail
        go_region_held3 (fun X => X.cell? ⟨b, o + 1, none⟩ = some (.int .i64 x2)) (first | assumption | go_keep)
          (first | (refine step_append_ops _ (by go_simp) (.tmp 29) (.tmp 31) rfl w.heap.size (.slice (some ⟨w.heap.size, 0, none⟩) 1 1) _ [(1, x2 - n, [])] l rfl rfl (by first | exact hO1 | exact owns_later hO1 (Below.refl _ _).drew) (by first | exact hR1 | exact hR1.later (Below.refl _ _).drew) hll (by simp) ?_; intro v9 w9 hown9 hadd9; have c9 := far_cell hadd9 (b := b) (i := o + 1) (by simp; omega) hne (by first | assumption | simpa using c2)))
        have HB9 := hidden (show Below w.heap.size w w9 by first | exact adds_bel (bel_alloc (Below.refl w.heap.size w) (opO 1 (x2 - n) [])) (by simp) hO1 hadd9 | exact adds_bel (bel_alloc (Below.refl w.heap.size w) (opO 1 (x2 - n) [])).drew (by simp) (owns_later hO1 (Below.refl _ _).drew) hadd9)
        have HO9 := hidden (OpsAt.of_owns hown9)
        have HNB := hidden (show ∀ b', v9.ownBlock = some b' → some b = some b' ∨ w.heap.size ≤ b' from fresh_own (B := w.heap.size) (Q := fun b' => some b = some b') hadd9 (by simp))
        go_wp2_with fail
        go_ret
        exact ⟨_, rfl, by rw [HO.out]; exact HO9.out, HB9.out, HNB.out⟩
      · have HO := hidden (show onn ((x1, x2, x3) :: l) n = l by rw [onn_cons, if_neg h])
        by_cases h1 : x1 = 1
        · subst h1
          have hd : decide (x2 > n) = false := by simp; omega
          have hd2 : decide (n < x2) = false := by simp; omega
          go_enter Try.func46, Try.ntmps46
          go_wp2_with fail
          go_ret
          exact ⟨_, rfl, by rw [HO.out]; exact HR.out, Below.refl _ _, fun b h => Or.inl h⟩
        · have h1b : (x1 == 1) = false := by simpa using h1
          go_enter Try.func46, Try.ntmps46
          go_wp2_with fail
          go_ret
          exact ⟨_, rfl, by rw [HO.out]; exact HR.out, Below.refl _ _, fun b h => Or.inl h⟩
    · have HR := hidden (show OpsAt w (.slice (some ⟨b, o + 3, none⟩) N (cap - 1)) l by
        have := OpsAt.rest2 (k := 1) HX.out (by simp [hN]) (by omega)
        rw [if_neg hcap1] at this
        simpa [addr_add] using this)
      have hc1 : 1 ≤ cap := by omega
      clear hN
      clear hX hc hcc hlen
      by_cases h : x1 = 1 ∧ n < x2
      · have HO := hidden (show onn ((x1, x2, x3) :: l) n = (1, x2 - n, []) :: l by rw [onn_cons, if_pos h])
        obtain ⟨rfl, hlt⟩ := h
        have hd : decide (x2 > n) = true := by simp; omega
        have hd2 : decide (n < x2) = true := by simp; omega
        go_enter Try.func46, Try.ntmps46
        have hw1 : wrap64 (x2 - n) = x2 - n := by unfold wrap64; omega
        have hw2 : IntKind.i64.wrap (x2 - n) = x2 - n := by rw [IntKind.wrap_i64]; omega
        have hO1 := owns_one (w := w) (B := w.heap.size) (Nat.le_refl _) 1 (x2 - n) []
        have hR1 := HR.out.later (bel_alloc (Below.refl w.heap.size w) (opO 1 (x2 - n) []))
        have hll : ([(1, x2 - n, [])] : List Oq).length + l.length ≤ 4398046511104 := by rw [HN.out]; simp <;> omega
        have hs1 : (1 : Int) ≤ (N : Int) + 1 := by omega
        have hs2 : (0 : Int) ≤ (N : Int) + 1 := by omega
        have hne : b ≠ w.heap.size := by omega
        go_upto_region 4 with fail
        go_region_held3 (fun X => X.cell? ⟨b, o + 1, none⟩ = some (.int .i64 x2)) (first | assumption | go_keep)
          (first | (refine step_append_ops _ (by go_simp) (.tmp 29) (.tmp 31) rfl w.heap.size (.slice (some ⟨w.heap.size, 0, none⟩) 1 1) _ [(1, x2 - n, [])] l rfl rfl (by first | exact hO1 | exact owns_later hO1 (Below.refl _ _).drew) (by first | exact hR1 | exact hR1.later (Below.refl _ _).drew) hll (by simp) ?_; intro v9 w9 hown9 hadd9; have c9 := far_cell hadd9 (b := b) (i := o + 1) (by simp; omega) hne (by first | assumption | simpa using c2)))
        have HB9 := hidden (show Below w.heap.size w w9 by first | exact adds_bel (bel_alloc (Below.refl w.heap.size w) (opO 1 (x2 - n) [])) (by simp) hO1 hadd9 | exact adds_bel (bel_alloc (Below.refl w.heap.size w) (opO 1 (x2 - n) [])).drew (by simp) (owns_later hO1 (Below.refl _ _).drew) hadd9)
        have HO9 := hidden (OpsAt.of_owns hown9)
        have HNB := hidden (show ∀ b', v9.ownBlock = some b' → some b = some b' ∨ w.heap.size ≤ b' from fresh_own (B := w.heap.size) (Q := fun b' => some b = some b') hadd9 (by simp))
        go_wp2_with fail
        go_ret
        exact ⟨_, rfl, by rw [HO.out]; exact HO9.out, HB9.out, HNB.out⟩
      · have HO := hidden (show onn ((x1, x2, x3) :: l) n = l by rw [onn_cons, if_neg h])
        by_cases h1 : x1 = 1
        · subst h1
          have hd : decide (x2 > n) = false := by simp; omega
          have hd2 : decide (n < x2) = false := by simp; omega
          go_enter Try.func46, Try.ntmps46
          go_wp2_with fail
          go_ret
          exact ⟨_, rfl, by rw [HO.out]; exact HR.out, Below.refl _ _, fun b h => Or.inl h⟩
        · have h1b : (x1 == 1) = false := by simpa using h1
          go_enter Try.func46, Try.ntmps46
          go_wp2_with fail
          go_ret
          exact ⟨_, rfl, by rw [HO.out]; exact HR.out, Below.refl _ _, fun b h => Or.inl h⟩

set_option maxHeartbeats 2000000 in
theorem pops_any (v : Value) (xs : List (Oq × Int)) (w : World) (hX : ByAt w v xs) (hl : xs.length ≤ 1099511627776) :
    Calls Try.prog 36 #[v] w fun e w' => ∃ v', e = .returned v' ∧ OpsAt w' v' (xs.map (·.1)) ∧ Below w.heap.size w w' := by
  obtain ⟨ao, cap, rfl, hc⟩ := hX.open_
  have HC := hidden hc
  clear hX hc
  go_enter Try.func36, Try.ntmps36
  go_wp2_with fail
  go_loopw [3, 4] (fun q i wr => ∃ k : Nat, k ≤ xs.length ∧ i = .int .i64 k ∧ Hid (wr.ownsRow w.heap.size 37 3 q k (cellsO ((xs.take k).map (·.1))) ∧ Below w.heap.size w wr)) (fun _ i _ => xs.length - (intOf i).toNat)
  case atStart => exact ⟨0, Nat.zero_le _, rfl, ⟨rfl, Or.inl ⟨rfl, rfl⟩⟩, Below.refl _ _⟩
  case round =>
    obtain ⟨k, hk, rfl, hst⟩ := hrel
    have hws := hst.out.2.size
    have HLK := hidden (show ((xs.take k).map (·.1)).length = k by rw [List.length_map, List.length_take, Nat.min_eq_left hk])
    by_cases hlt : k < xs.length
    · obtain ⟨x, hx⟩ : ∃ x, xs[k]? = some x := ⟨xs[k], List.getElem?_eq_getElem hlt⟩
      obtain ⟨b, o, hao, hcap, hb, c1, c2, c3, c4⟩ := HC.out k x hx
      subst hao
      obtain ⟨⟨x1, x2, x3⟩, x4⟩ := x
      have d1 := (hst.out.2.cell (p := ⟨b, o + k * 4, none⟩) hb).trans c1
      have d2 := (hst.out.2.cell (p := ⟨b, o + k * 4 + 1, none⟩) hb).trans c2
      have d3 := (hst.out.2.cell (p := ⟨b, o + k * 4 + 2, none⟩) hb).trans c3
      simp only at d1 d2 d3
      have HXQ := hidden (show (xs.take (k + 1)).map (·.1) = (xs.take k).map (·.1) ++ [(x1, x2, x3)] by rw [take_snoc hx, List.map_append]; rfl)
      clear hx c1 c2 c3 c4
      go_wp2_with (at_builtin; go_must (refine wpList_append_ops _ (by go_simp) (.tmp 11) (.tmp 17) rfl w.heap.size _ (.slice (some ⟨wr.heap.size, 0, none⟩) 1 1) ((xs.take k).map (·.1)) [(x1, x2, x3)] rfl rfl (by rw [HLK.out]; exact hst.out.1.alloc _) (ops_oneAt _ _ _ _ _ rfl) (by rw [HLK.out]; simp; omega) (by simp; omega) ?_; intro v9 w9 hown9 hadd9))
      have HK := hidden (show w9.ownsRow w.heap.size 37 3 v9 (k + 1) (cellsO ((xs.take (k + 1)).map (·.1))) ∧ Below w.heap.size w w9 from ⟨by
        rw [List.length_append, HLK.out] at hown9
        rw [HXQ.out]; exact hown9, adds_bel (bel_alloc hst.out.2 _) (by simp; omega) (hst.out.1.alloc (opO x1 x2 x3)) hadd9⟩)
      clear hown9 hadd9
      go_roundw
      case rel => exact ⟨k + 1, by omega, by go_num, HK.out⟩
      case measure => simp [intOf]; omega
    · have hke : xs.take k = xs := List.take_of_length_le (by omega)
      rw [hke] at hst
      go_wp2_with fail
      go_ret
      exact ⟨_, rfl, OpsAt.of_owns hst.out.1, hst.out.2⟩

end Go.Proofs.Ytmbalnjobcgpkaa

namespace Go.Proofs.Ytmbalnjobcgpkaa
open Go.RowKit Go.Proofs.Ytmbalnjobcgpkaa.Ln Go.Proofs.Ytmbalnjobcgpkaa.Ol

/-- how long a slice is -/
def lenS : Value → Nat
  | .slice _ n _ => n
  | _ => 0
/-- both lists, and the row that is made -/
structure KW (w : World) (p q : List Oq) (o : List (Oq × Int)) (vp vq vo : Value) (W : World) : Prop where
  bel : Below w.heap.size w W
  pa : OpsAt W vp p
  qa : OpsAt W vq q
  oo : W.ownsRow w.heap.size 55 4 vo o.length (cellsB o)
  np : p ≠ [] → ∀ b, vp.ownBlock = some b → vo.ownBlock ≠ some b
  nq : q ≠ [] → ∀ b, vq.ownBlock = some b → vo.ownBlock ≠ some b
theorem KW.later {w : World} {p q : List Oq} {o : List (Oq × Int)} {vp vq vo : Value} {W W' : World} (h : KW w p q o vp vq vo W) (hb : Below W.heap.size W W') : KW w p q o vp vq vo W' :=
  ⟨h.bel.trans (hb.mono h.bel.size), h.pa.later hb, h.qa.later hb, owns_later h.oo hb, h.np, h.nq⟩
theorem KW.alloc {w : World} {p q : List Oq} {o : List (Oq × Int)} {vp vq vo : Value} {W : World} (h : KW w p q o vp vq vo W) (x : Obj) : KW w p q o vp vq vo (W.alloc x) := h.later ((Below.refl _ W).alloc (Nat.le_refl _) x)
theorem OpsAt.ownLt {W : World} {v : Value} {xs : List Oq} (h : OpsAt W v xs) (hne : xs ≠ []) : ∀ b, v.ownBlock = some b → b < W.heap.size := by
  intro b hb
  obtain ⟨b', o, cap, rfl, _, hlt, _⟩ := h.cells hne
  simp only [Value.ownBlock, Option.some.injEq] at hb
  omega
theorem OpsAt.grown {W W' : World} {v : Value} {xs : List Oq} {row : Option Nat} (h : OpsAt W v xs) (hg : W.grownBy W' row) (hr : xs ≠ [] → ∀ b, v.ownBlock = some b → row ≠ some b) : OpsAt W' v xs := by
  by_cases hx0 : xs = []
  · subst hx0
    rcases h with h | ⟨b, o, cap, h1, h2, h3, h4⟩
    · exact Or.inl h
    · exact Or.inl ⟨rfl, _, _, h1, fun e => by cases e⟩
  rcases h with h | ⟨b, o, cap, h1, h2, h3, h4⟩
  · exact Or.inl h
  · subst h1
    have hne : some b ≠ row := fun e => hr hx0 b rfl e.symm
    refine Or.inr ⟨b, o, cap, rfl, h2, Nat.lt_of_lt_of_le h3 hg.size, fun j x hx => ?_⟩
    rw [hg.cell_far ⟨b, o + j * 3, none⟩ h3 hne, hg.cell_far ⟨b, o + j * 3 + 1, none⟩ h3 hne, hg.cell_far ⟨b, o + j * 3 + 2, none⟩ h3 hne]
    exact h4 j x hx
/-- a step is added to the row -/
theorem KW.add {w : World} {p q : List Oq} {o : List (Oq × Int)} {vp vq vo v' : Value} {W W' : World} {x : Oq × Int} (h : KW w p q o vp vq vo W) (ho : W'.ownsRow w.heap.size 55 4 v' (o.length + 1) (cellsB (o ++ [x]))) (hg : W.grownBy W' vo.ownBlock) (hv : v'.ownBlock = vo.ownBlock ∨ v'.ownBlock = some W.heap.size) : KW w p q (o ++ [x]) vp vq v' W' := by
  refine ⟨h.bel.trans ⟨hg.os, hg.tape, hg.output, hg.size, fun k hk => hg.block k (by have := h.bel.size; omega) (fun e => by have := (h.oo.lt k e.symm).1; omega)⟩, h.pa.grown hg h.np, h.qa.grown hg h.nq, by rw [List.length_append]; exact ho, fun hne b hb e => ?_, fun hne b hb e => ?_⟩
  · rcases hv with e2 | e2
    · rw [e2] at e; exact h.np hne b hb e
    · rw [e2] at e; cases e; have := h.pa.ownLt hne _ hb; omega
  · rcases hv with e2 | e2
    · rw [e2] at e; exact h.nq hne b hb e
    · rw [e2] at e; cases e; have := h.qa.ownLt hne _ hb; omega
/-- one of the lists goes on -/
theorem KW.goP {w : World} {p p' q : List Oq} {o : List (Oq × Int)} {vp vp' vq vo : Value} {W W' : World} (h : KW w p q o vp vq vo W) (hb : Below W.heap.size W W') (ho : OpsAt W' vp' p') (hne : p' ≠ [] → p ≠ []) (hv : ∀ b, vp'.ownBlock = some b → vp.ownBlock = some b ∨ W.heap.size ≤ b) : KW w p' q o vp' vq vo W' := by
  have h2 := h.later hb
  refine ⟨h2.bel, ho, h2.qa, h2.oo, fun hn b hb2 e => ?_, h2.nq⟩
  rcases hv b hb2 with e2 | e2
  · exact h.np (hne hn) b e2 e
  · have := (h.oo.lt b e).2; omega
theorem KW.goQ {w : World} {p q q' : List Oq} {o : List (Oq × Int)} {vp vq vq' vo : Value} {W W' : World} (h : KW w p q o vp vq vo W) (hb : Below W.heap.size W W') (ho : OpsAt W' vq' q') (hne : q' ≠ [] → q ≠ []) (hv : ∀ b, vq'.ownBlock = some b → vq.ownBlock = some b ∨ W.heap.size ≤ b) : KW w p q' o vp vq' vo W' := by
  have h2 := h.later hb
  refine ⟨h2.bel, h2.pa, ho, h2.oo, h2.np, fun hn b hb2 e => ?_⟩
  rcases hv b hb2 with e2 | e2
  · exact h.nq (hne hn) b e2 e
  · have := (h.oo.lt b e).2; omega
theorem onn_ne {p : List Oq} {n : Int} (h : onn p n ≠ []) : p ≠ [] := fun e => h (by rw [e]; rfl)
/-- a list with something at its head -/
theorem OpsAt.first {w : World} {v : Value} {x : Oq} {l : List Oq} (h : OpsAt w v (x :: l)) : ∃ b o cap, v = .slice (some ⟨b, o, none⟩) (l.length + 1) cap ∧ l.length + 1 ≤ cap ∧ b < w.heap.size ∧ w.cell? ⟨b, o, none⟩ = some (.int .i64 x.1) ∧ w.cell? ⟨b, o + 1, none⟩ = some (.int .i64 x.2.1) ∧ w.cell? ⟨b, o + 2, none⟩ = some (.string ⟨x.2.2.toArray⟩) := by
  obtain ⟨b, o, cap, e, h2, h3, h4⟩ := h.cells (by simp)
  have h5 := h4 0 x rfl
  rw [show o + 0 * 3 = o by omega] at h5
  exact ⟨b, o, cap, e, h2, h3, h5.1, h5.2.1, h5.2.2⟩
/-- the rest of a list with something at its head -/
theorem OpsAt.behind {w : World} {b o cap : Nat} {x : Oq} {l : List Oq} (h : OpsAt w (.slice (some ⟨b, o, none⟩) (l.length + 1) cap) (x :: l)) : OpsAt w (.slice (if cap = 1 then some ⟨b, o, none⟩ else some ⟨b, o + 3, none⟩) l.length (cap - 1)) l := by
  have := OpsAt.rest2 (k := 1) h rfl (by omega)
  by_cases hc : cap = 1
  · rw [if_pos hc] at this ⊢; simpa using this
  · rw [if_neg hc] at this ⊢; simpa [addr_add] using this

end Go.Proofs.Ytmbalnjobcgpkaa
