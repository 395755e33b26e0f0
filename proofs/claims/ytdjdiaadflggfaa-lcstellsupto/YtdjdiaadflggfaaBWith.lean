
/-
  What the program's with answers: marks with one line more; conditions: where the marks lie, that the line is behind them all.
-/
import Derived.Test.YtdjdiaadflggfaaBState
namespace Go.Proofs.Ytdjdiaadflggfaa
open Go.RowKit Go.Proofs.Ytdjdiaadflggfaa.Ln Go.Proofs.Ytdjdiaadflggfaa.Ol

def mcells : List Nat → Bs → List Value
  | [], _ => []
  | x :: l, g => Z x :: U (Gl.word g x) :: mcells l g
theorem mcells_len (l : List Nat) (g : Bs) : (mcells l g).length = l.length * 2 := by
  induction l with
  | nil => rfl
  | cons r l ih => simp [mcells, ih]; omega
theorem mcells_app (a b : List Nat) (g : Bs) : mcells (a ++ b) g = mcells a g ++ mcells b g := by
  induction a with
  | nil => rfl
  | cons r l ih => simp [mcells, ih]
theorem mcells_congr {l : List Nat} {g g' : Bs} (h : ∀ x ∈ l, Gl.word g x = Gl.word g' x) : mcells l g = mcells l g' := by
  induction l with
  | nil => rfl
  | cons r l ih => rw [mcells, mcells, h r (by simp), ih (fun x hx => h x (by simp [hx]))]
theorem mcells_at (l : List Nat) (g : Bs) : ∀ (j : Nat) x, l[j]? = some x → (mcells l g)[j * 2]? = some (Z x) ∧ (mcells l g)[j * 2 + 1]? = some (U (Gl.word g x)) := by
  induction l with
  | nil => intro j r h; simp at h
  | cons x l ih =>
    intro j r h
    cases j with
    | zero => simp at h; subst h; exact ⟨rfl, rfl⟩
    | succ j =>
      have := ih j r (by simpa using h)
      rw [show (j + 1) * 2 = j * 2 + 1 + 1 by omega, show j * 2 + 1 + 1 + 1 = (j * 2 + 1) + 1 + 1 by omega]
      simp only [mcells, List.getElem?_cons_succ]
      exact this
theorem MkAt.of_owns {W : World} {B n : Nat} {v : Value} {ws : List Nat} {g : Bs} (h : W.ownsRow B 71 2 v n (mcells ws g)) : MkAt W v ws g := by
  have hn : ws.length = n := by have := h.1; rw [mcells_len] at this; omega
  rcases h.2 with ⟨rfl, h0⟩ | ⟨b, cap, cur, hv, hB, hg, hc, hm, hs, ht⟩
  · exact Or.inl ⟨List.eq_nil_of_length_eq_zero (by omega), none, 0, rfl, fun _ => rfl⟩
  · refine Or.inr ⟨b, 0, cap, cur, (0, 0), by rw [hn]; exact hv, by omega, hg, fun j x hx => ?_⟩
    subst hv
    obtain ⟨c1, c2⟩ := mcells_at ws g j x hx
    have hlt := (List.getElem?_eq_some_iff.1 hx).1
    rw [Nat.zero_add, h.cellAt (j * 2) (by omega), h.cellAt (j * 2 + 1) (by omega)]
    exact ⟨c1, c2⟩
/-- marks with one line more -/
def put1 (g : Bs) (p : Nat) : Bs := fun d => g d || d == p
theorem put1_far (g : Bs) (p x : Nat) (h : x ≠ p / 64) : Gl.word g x = Gl.word (put1 g p) x := word_congr fun d hd => by
  unfold put1
  rw [show (d == p) = false by simp; intro e; subst e; exact h hd.symm, Bool.or_false]
theorem put1_word (g : Bs) (p : Nat) : Gl.word g (p / 64) ||| 2 ^ (p % 64) = Gl.word (put1 g p) (p / 64) := Gl.word_put g p
/-- the words that have marks, with that of one line more -/
def nextW (ws : List Nat) (q : Nat) : List Nat := if ws.getLast? = some q then ws else ws ++ [q]
/-- marks of lines ahead of p -/
structure Mks (ws : List Nat) (g : Bs) (p : Nat) : Prop where
  up : ws.Pairwise (· < ·)
  low : ∀ x ∈ ws, x * 64 < p
  all : ∀ d, g d = true → d < p ∧ d / 64 ∈ ws
theorem Mks.next {ws : List Nat} {g : Bs} {p : Nat} (h : Mks ws g p) : Mks (nextW ws (p / 64)) (put1 g p) (p + 1) := by
  unfold nextW
  by_cases hl : ws.getLast? = some (p / 64)
  · rw [if_pos hl]
    refine ⟨h.up, fun x hx => by have := h.low x hx; omega, fun d hd => ?_⟩
    unfold put1 at hd
    simp only [Bool.or_eq_true, beq_iff_eq] at hd
    rcases hd with hd | rfl
    · exact ⟨by have := (h.all d hd).1; omega, (h.all d hd).2⟩
    · exact ⟨by omega, List.mem_of_getLast? hl⟩
  · rw [if_neg hl]
    refine ⟨List.pairwise_append.2 ⟨h.up, by simp, fun x hx y hy => ?_⟩, fun x hx => ?_, fun d hd => ?_⟩
    · rw [List.mem_singleton.1 hy]
      have h1 := h.low x hx
      have h2 : x ≤ p / 64 := by omega
      rcases Nat.lt_or_eq_of_le h2 with h3 | h3
      · exact h3
      · exfalso
        apply hl
        rcases List.eq_nil_or_concat ws with e | ⟨l, z, e⟩
        · subst e; cases hx
        · rw [List.concat_eq_append] at e
          subst e
          rw [List.getLast?_concat]
          rcases List.mem_append.1 hx with hx | hx
          · have := (List.pairwise_append.1 h.up).2.2 x hx z (by simp)
            have := h.low z (by simp)
            omega
          · rw [← List.mem_singleton.1 hx, h3]
    · rcases List.mem_append.1 hx with hx | hx
      · have := h.low x hx; omega
      · rw [List.mem_singleton.1 hx]; omega
    · unfold put1 at hd
      simp only [Bool.or_eq_true, beq_iff_eq] at hd
      rcases hd with hd | rfl
      · exact ⟨by have := (h.all d hd).1; omega, List.mem_append_left _ (h.all d hd).2⟩
      · exact ⟨by omega, by simp⟩
theorem Mks.word0 {ws : List Nat} {g : Bs} {p : Nat} (h : Mks ws g p) (hl : ws.getLast? ≠ some (p / 64)) : Gl.word (put1 g p) (p / 64) = 2 ^ (p % 64) := by
  have h0 : Gl.word g (p / 64) = 0 := word_zero fun d hd => by
    cases hg : g d with
    | false => rfl
    | true =>
      exfalso
      obtain ⟨h1, h2⟩ := h.all d hg
      rw [hd] at h2
      apply hl
      rcases List.eq_nil_or_concat ws with e | ⟨l, z, e⟩
      · subst e; cases h2
      · rw [List.concat_eq_append] at e
        subst e
        rw [List.getLast?_concat]
        rcases List.mem_append.1 h2 with hx | hx
        · have := (List.pairwise_append.1 h.up).2.2 _ hx z (by simp)
          have := h.low z (by simp)
          omega
        · rw [← List.mem_singleton.1 hx]
  rw [← put1_word, h0, Nat.zero_or]

theorem mcells_last (l : List Nat) (q : Nat) {g g' : Bs} (h : ∀ x ∈ l, Gl.word g x = Gl.word g' x) : (mcells (l ++ [q]) g).set (l.length * 2 + 1) (U (Gl.word g' q)) = mcells (l ++ [q]) g' := by
  rw [mcells_app, mcells_app, List.set_append, if_neg (by rw [mcells_len]; omega), mcells_len, show l.length * 2 + 1 - l.length * 2 = 1 by omega, mcells_congr h]
  rfl
theorem last_split {ws : List Nat} {q : Nat} (h : ws.getLast? = some q) : ∃ l, ws = l ++ [q] := by
  rcases List.eq_nil_or_concat ws with e | ⟨l, z, e⟩
  · subst e; cases h
  · rw [List.concat_eq_append] at e
    subst e
    rw [List.getLast?_concat] at h
    cases h
    exact ⟨l, rfl⟩

set_option maxHeartbeats 2000000 in
theorem bwith_any (B : Nat) (v : Value) (ws : List Nat) (g : Bs) (p : Nat) (w : World) (h : w.ownsRow B 71 2 v ws.length (mcells ws g)) (hm : Mks ws g p) (hp : p ≤ 4194304) (hl : ws.length ≤ 4194304) (hB : B ≤ w.heap.size) :
    Calls Try.prog 30 #[v, .int .i64 p] w fun e w' => ∃ v', e = .returned v' ∧ w'.ownsRow B 71 2 v' (nextW ws (p / 64)).length (mcells (nextW ws (p / 64)) (put1 g p)) ∧ w.grownBy w' v.ownBlock ∧ (v'.ownBlock = v.ownBlock ∨ ∃ q, v'.ownBlock = some q ∧ w.heap.size ≤ q) := by
  obtain ⟨q, hq⟩ : ∃ q, p / 64 = q := ⟨_, rfl⟩
  have hqI : (p : Int) / 64 = q := by omega
  have hqT : (p : Int).tdiv 64 = q := by rw [Int.tdiv_eq_ediv_of_nonneg (by omega)]; exact hqI
  have HO := hidden h
  have HM := hidden hm
  have HQ := hidden hq
  obtain ⟨a, cp, rfl, hcp, ha⟩ := own_shape h
  obtain ⟨n, hn⟩ : ∃ n, ws.length = n := ⟨_, rfl⟩
  have HN := hidden hn
  rw [hn] at hcp hl ⊢
  clear h hm hq hn
  obtain ⟨bt, hbt⟩ : ∃ bt, 2 ^ (p % 64) = bt := ⟨_, rfl⟩
  have hbl : bt < 18446744073709551616 := by
    rw [← hbt]
    have := Nat.pow_lt_pow_right (a := 2) (by decide) (show p % 64 < 64 by omega)
    simpa using this
  have hbw : IntKind.u64.wrap (2 ^ (p % 64)) = (bt : Int) := by
    have e : ((2 : Int) ^ (p % 64)) = ((2 ^ (p % 64) : Nat) : Int) := by rw [Int.natCast_pow]; rfl
    rw [e, hbt]
    simp [IntKind.wrap, IntKind.bits, IntKind.signed]
    omega
  have HBT := hidden hbt
  clear hbt
  go_enter Try.func30, Try.ntmps30
  go_wp2_with fail
  go_quiet (fail)
  rw [hbw]
  have HO2 := hidden (owns_later HO.out (below_drewN (Below.refl _ w) nq))
  rw [HN.out] at HO2
  have HG2 := hidden (show w.grownBy (w.drewN nq) (Value.slice a n cp).ownBlock from ⟨rfl, rfl, rfl, Nat.le_refl _, fun _ _ _ => rfl⟩)
  have HS2 := hidden (show (w.drewN nq).heap.size = w.heap.size from rfl)
  clear HO hbw
  generalize World.drewN w nq = W2 at HO2 HG2 HS2 ⊢
  clear nq
  have hBW : B ≤ W2.heap.size := by rw [HS2.out]; exact hB
  by_cases hlast : ws.getLast? = some q
  · have hn0 : 0 < n := by
      rw [← HN.out]
      rcases Nat.eq_zero_or_pos ws.length with h | h
      · rw [List.eq_nil_of_length_eq_zero h] at hlast; cases hlast
      · exact h
    obtain ⟨m, rfl⟩ : ∃ m, n = m + 1 := ⟨n - 1, by omega⟩
    have hx : ws[m]? = some q := by
      rw [List.getLast?_eq_getElem?, HN.out] at hlast
      exact hlast
    obtain ⟨gw, rfl⟩ : ∃ gw, a = some ⟨gw, 0, none⟩ := by
      obtain ⟨gw, c2, e, _⟩ := HO2.out.form (by omega)
      cases e
      exact ⟨gw, rfl⟩
    obtain ⟨d0, d1⟩ := mcells_at ws g m q hx
    obtain ⟨wd, hwd⟩ : ∃ wd, Gl.word g q = wd := ⟨_, rfl⟩
    rw [hwd] at d1
    have hwl : wd < 18446744073709551616 := by rw [← hwd]; exact Gl.word_lt g q
    have c0 : W2.cell? ⟨gw, m * 2, none⟩ = some (.int .i64 q) := by rw [HO2.out.cellAt (m * 2) (by omega), d0]
    have c1 : W2.cell? ⟨gw, m * 2 + 1, none⟩ = some (.int .u64 wd) := by rw [HO2.out.cellAt (m * 2 + 1) (by omega), d1]
    have cf : W2.frozen? ⟨gw, m * 2 + 1, none⟩ = false := HO2.out.frozenAt _
    obtain ⟨nw, hnw⟩ : ∃ nw, wd ||| bt = nw := ⟨_, rfl⟩
    have hor : bits BinOp.or IntKind.u64 (wd : Int) (bt : Int) = (nw : Int) := by rw [u64_or_nat wd bt hwl hbl, hnw]
    have HNW := hidden (show Gl.word (put1 g p) q = nw by rw [← HQ.out, ← put1_word, HQ.out, hwd, HBT.out, hnw])
    have HNX := hidden (show nextW ws q = ws from if_pos hlast)
    have HLA := hidden hlast
    have hd : ((q : Int) == (q : Int)) = true := by simp
    clear d0 d1 hx hwd hnw hlast
    go_wp2_with fail
    go_ret
    obtain ⟨l, rfl⟩ := last_split HLA.out
    have hl := HN.out
    rw [List.length_append, List.length_singleton] at hl
    have hlm : l.length = m := by omega
    obtain ⟨s1, s2⟩ := HO2.out.stored (m * 2 + 1) (.int .u64 nw)
    have e := mcells_last l q (g := g) (g' := put1 g p) (fun x hx => put1_far g p x (fun e => by
      have := (List.pairwise_append.1 HM.out.up).2.2 x hx q (by simp)
      rw [e, HQ.out] at this
      omega))
    rw [HNW.out, hlm] at e
    rw [e] at s1
    refine ⟨_, rfl, by rw [HQ.out, HNX.out, HN.out]; exact s1, ?_, Or.inl rfl⟩
    exact ⟨s2.os.trans HG2.out.os, s2.tape.trans HG2.out.tape, s2.output.trans HG2.out.output, by have := s2.size; have := HS2.out; omega, fun k hk hne => (s2.block k (by have := HS2.out; omega) hne).trans (HG2.out.block k hk hne)⟩
  · have HAP := hidden (show nextW ws q = ws ++ [q] ∧ mcells (ws ++ [q]) (put1 g p) = mcells ws g ++ [.int .i64 q, .int .u64 bt] from ⟨if_neg hlast, by
      have h1 := HM.out.word0 (by rw [HQ.out]; exact hlast)
      rw [HQ.out, HBT.out] at h1
      rw [mcells_app, ← mcells_congr (g := g) (fun x hx => put1_far g p x (fun e => by
        rw [HQ.out] at e
        subst e
        apply hlast
        obtain ⟨j, hj⟩ := List.mem_iff_getElem?.1 hx
        rcases List.eq_nil_or_concat ws with e | ⟨l, z, e⟩
        · subst e; cases hx
        · rw [List.concat_eq_append] at e
          subst e
          rw [List.getLast?_concat]
          rcases List.mem_append.1 hx with hx | hx
          · have := (List.pairwise_append.1 HM.out.up).2.2 x hx z (by simp)
            have := HM.out.low z (by simp)
            have := HQ.out
            omega
          · rw [← List.mem_singleton.1 hx]))]
      simp [mcells, h1]⟩)
    by_cases hn0 : n = 0
    · subst hn0
      have hd : decide ((0 : Int) > 0) = false := by decide
      go_wp2_with (at_builtin; go_must (refine wpList_app rfl (.tmp 38) (.tmp 42) 63 71 rfl (.agg #[.int .i64 0, .int .u64 0]) 2 16 Try.underlying63 Try.infoMark rfl (by decide) B W2.heap.size _ _ (mcells ws g) [.int .i64 q, .int .u64 bt] rfl rfl (owns_later HO2.out (by (with_reducible (repeat (first | exact Below.refl _ _ | exact Below.refl _ _ | apply bel_alloc | apply bel_put | apply bel_set | apply Below.drew | apply below_drewN | assumption | omega))))) rfl (fun u hu => by simp only [List.mem_cons, List.not_mem_nil, or_false] at hu; rcases hu with rfl | rfl <;> rfl) (cells_new W2 _ _ rfl _) (by omega) (by decide) (by simp; omega) ?_; intro g9 c9 w9 hown9 hg9 hl9; have HO9 := hidden hown9; have HG9 := hidden hg9; have HL9 := hidden hl9; clear hown9 hg9 hl9))
      go_ret
      refine ⟨_, rfl, ?_, ?_, ?_⟩
      · rw [HQ.out, HAP.out.1, HAP.out.2, List.length_append, List.length_singleton, HN.out]
        exact HO9.out
      · exact ⟨HG9.out.os.trans HG2.out.os, HG9.out.tape.trans HG2.out.tape, HG9.out.output.trans HG2.out.output, by have := HG9.out.size; simp at this; have := HS2.out; omega, fun k hk hne => (HG9.out.block k (by simp; have := HS2.out; omega) hne).trans ((Below.heap_alloc _ _ _ (by have := HS2.out; omega)).trans (HG2.out.block k hk hne))⟩
      · rcases HL9.out with h | h
        · exact Or.inl h
        · exact Or.inr ⟨g9, rfl, by rw [h]; simp; have := HS2.out; omega⟩
    · obtain ⟨m, rfl⟩ : ∃ m, n = m + 1 := ⟨n - 1, by omega⟩
      obtain ⟨x, hx⟩ : ∃ x, ws[m]? = some x := ⟨ws[m]'(by rw [HN.out]; omega), List.getElem?_eq_getElem _⟩
      have hne : x ≠ q := fun e => hlast (by rw [List.getLast?_eq_getElem?, HN.out, ← e]; exact hx)
      obtain ⟨gw, rfl⟩ : ∃ gw, a = some ⟨gw, 0, none⟩ := by
        obtain ⟨gw, c2, e, _⟩ := HO2.out.form (by omega)
        cases e
        exact ⟨gw, rfl⟩
      obtain ⟨d0, d1⟩ := mcells_at ws g m x hx
      have c0 : W2.cell? ⟨gw, m * 2, none⟩ = some (.int .i64 x) := by rw [HO2.out.cellAt (m * 2) (by omega), d0]
      have hd : ((x : Int) == (q : Int)) = false := by simp; omega
      clear d0 d1 hx hlast
      go_wp2_with (at_builtin; go_must (refine wpList_app rfl (.tmp 38) (.tmp 42) 63 71 rfl (.agg #[.int .i64 0, .int .u64 0]) 2 16 Try.underlying63 Try.infoMark rfl (by decide) B W2.heap.size _ _ (mcells ws g) [.int .i64 q, .int .u64 bt] rfl rfl (owns_later HO2.out (by (with_reducible (repeat (first | exact Below.refl _ _ | exact Below.refl _ _ | apply bel_alloc | apply bel_put | apply bel_set | apply Below.drew | apply below_drewN | assumption | omega))))) rfl (fun u hu => by simp only [List.mem_cons, List.not_mem_nil, or_false] at hu; rcases hu with rfl | rfl <;> rfl) (cells_new W2 _ _ rfl _) (by omega) (by decide) (by simp; omega) ?_; intro g9 c9 w9 hown9 hg9 hl9; have HO9 := hidden hown9; have HG9 := hidden hg9; have HL9 := hidden hl9; clear hown9 hg9 hl9))
      go_ret
      refine ⟨_, rfl, ?_, ?_, ?_⟩
      · rw [HQ.out, HAP.out.1, HAP.out.2, List.length_append, List.length_singleton, HN.out]
        exact HO9.out
      · exact ⟨HG9.out.os.trans HG2.out.os, HG9.out.tape.trans HG2.out.tape, HG9.out.output.trans HG2.out.output, by have := HG9.out.size; simp at this; have := HS2.out; omega, fun k hk hne => (HG9.out.block k (by simp; have := HS2.out; omega) hne).trans ((Below.heap_alloc _ _ _ (by have := HS2.out; omega)).trans (HG2.out.block k hk hne))⟩
      · rcases HL9.out with h | h
        · exact Or.inl h
        · exact Or.inr ⟨g9, rfl, by rw [h]; simp; have := HS2.out; omega⟩

end Go.Proofs.Ytdjdiaadflggfaa
