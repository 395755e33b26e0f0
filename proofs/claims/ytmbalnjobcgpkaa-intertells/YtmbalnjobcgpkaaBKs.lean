
/-
  The sorts of a row's lines and their marks, while the row is gone through: in memory, and what each step of it turns; conditions: where they lie.
-/
import Derived.Test.YtmbalnjobcgpkaaBState
import Derived.Test.YtmbalnjobcgpkaaORange
import Derived.Deep.RegionLaw
import Derived.Deep.RegionHeld3
import Derived.BigQuiet
import Derived.BigRegion
import Derived.Test.YtmbalnjobcgpkaaORow
import Derived.Maps.OwnIn
import Derived.Maps.OwnSet
import Derived.Maps.Views
namespace Go.Proofs.Ytmbalnjobcgpkaa
open Go.RowKit Go.Proofs.Ytmbalnjobcgpkaa.Ln Go.Proofs.Ytmbalnjobcgpkaa.Ol

def mcells : List Nat → Bs → List Value
  | [], _ => []
  | x :: l, g => Z x :: U (Gl.word g x) :: mcells l g
theorem mcells_len (l : List Nat) (g : Bs) : (mcells l g).length = l.length * 2 := by
  induction l with
  | nil => rfl
  | cons r l ih => simp [mcells, ih]; omega
theorem mcells_app (a b : List Nat) (g : Bs) : mcells (a ++ b) g = mcells a g ++ mcells b g := by
  induction a with
  | nil => rfl
  | cons r l ih => simp [mcells, ih]
theorem mcells_congr {l : List Nat} {g g' : Bs} (h : ∀ x ∈ l, Gl.word g x = Gl.word g' x) : mcells l g = mcells l g' := by
  induction l with
  | nil => rfl
  | cons r l ih => rw [mcells, mcells, h r (by simp), ih (fun x hx => h x (by simp [hx]))]
theorem mcells_at (l : List Nat) (g : Bs) : ∀ (j : Nat) x, l[j]? = some x → (mcells l g)[j * 2]? = some (Z x) ∧ (mcells l g)[j * 2 + 1]? = some (U (Gl.word g x)) := by
  induction l with
  | nil => intro j r h; simp at h
  | cons x l ih =>
    intro j r h
    cases j with
    | zero => simp at h; subst h; exact ⟨rfl, rfl⟩
    | succ j =>
      have := ih j r (by simpa using h)
      rw [show (j + 1) * 2 = j * 2 + 1 + 1 by omega, show j * 2 + 1 + 1 + 1 = (j * 2 + 1) + 1 + 1 by omega]
      simp only [mcells, List.getElem?_cons_succ]
      exact this
theorem MkAt.of_owns {W : World} {B n : Nat} {v : Value} {ws : List Nat} {g : Bs} (h : W.ownsRow B 113 2 v n (mcells ws g)) : MkAt W v ws g := by
  have hn : ws.length = n := by have := h.1; rw [mcells_len] at this; omega
  rcases h.2 with ⟨rfl, h0⟩ | ⟨b, cap, cur, hv, hB, hg, hc, hm, hs, ht⟩
  · exact Or.inl ⟨List.eq_nil_of_length_eq_zero (by omega), none, 0, rfl, fun _ => rfl⟩
  · refine Or.inr ⟨b, 0, cap, cur, (0, 0), by rw [hn]; exact hv, by omega, hg, fun j x hx => ?_⟩
    subst hv
    obtain ⟨c1, c2⟩ := mcells_at ws g j x hx
    have hlt := (List.getElem?_eq_some_iff.1 hx).1
    rw [Nat.zero_add, h.cellAt (j * 2) (by omega), h.cellAt (j * 2 + 1) (by omega)]
    exact ⟨c1, c2⟩
/-- marks with one line more -/
def put1 (g : Bs) (p : Nat) : Bs := fun d => g d || d == p
theorem put1_far (g : Bs) (p x : Nat) (h : x ≠ p / 64) : Gl.word g x = Gl.word (put1 g p) x := word_congr fun d hd => by
  unfold put1
  rw [show (d == p) = false by simp; intro e; subst e; exact h hd.symm, Bool.or_false]
theorem put1_word (g : Bs) (p : Nat) : Gl.word g (p / 64) ||| 2 ^ (p % 64) = Gl.word (put1 g p) (p / 64) := Gl.word_put g p
/-- the words that have marks, with that of one line more -/
def nextW (ws : List Nat) (q : Nat) : List Nat := if ws.getLast? = some q then ws else ws ++ [q]
/-- marks of lines ahead of p -/
structure Mks (ws : List Nat) (g : Bs) (p : Nat) : Prop where
  up : ws.Pairwise (· < ·)
  low : ∀ x ∈ ws, x * 64 < p
  all : ∀ d, g d = true → d < p ∧ d / 64 ∈ ws
theorem Mks.next {ws : List Nat} {g : Bs} {p : Nat} (h : Mks ws g p) : Mks (nextW ws (p / 64)) (put1 g p) (p + 1) := by
  unfold nextW
  by_cases hl : ws.getLast? = some (p / 64)
  · rw [if_pos hl]
    refine ⟨h.up, fun x hx => by have := h.low x hx; omega, fun d hd => ?_⟩
    unfold put1 at hd
    simp only [Bool.or_eq_true, beq_iff_eq] at hd
    rcases hd with hd | rfl
    · exact ⟨by have := (h.all d hd).1; omega, (h.all d hd).2⟩
    · exact ⟨by omega, List.mem_of_getLast? hl⟩
  · rw [if_neg hl]
    refine ⟨List.pairwise_append.2 ⟨h.up, by simp, fun x hx y hy => ?_⟩, fun x hx => ?_, fun d hd => ?_⟩
    · rw [List.mem_singleton.1 hy]
      have h1 := h.low x hx
      have h2 : x ≤ p / 64 := by omega
      rcases Nat.lt_or_eq_of_le h2 with h3 | h3
      · exact h3
      · exfalso
        apply hl
        rcases List.eq_nil_or_concat ws with e | ⟨l, z, e⟩
        · subst e; cases hx
        · rw [List.concat_eq_append] at e
          subst e
          rw [List.getLast?_concat]
          rcases List.mem_append.1 hx with hx | hx
          · have := (List.pairwise_append.1 h.up).2.2 x hx z (by simp)
            have := h.low z (by simp)
            omega
          · rw [← List.mem_singleton.1 hx, h3]
    · rcases List.mem_append.1 hx with hx | hx
      · have := h.low x hx; omega
      · rw [List.mem_singleton.1 hx]; omega
    · unfold put1 at hd
      simp only [Bool.or_eq_true, beq_iff_eq] at hd
      rcases hd with hd | rfl
      · exact ⟨by have := (h.all d hd).1; omega, List.mem_append_left _ (h.all d hd).2⟩
      · exact ⟨by omega, by simp⟩
theorem Mks.word0 {ws : List Nat} {g : Bs} {p : Nat} (h : Mks ws g p) (hl : ws.getLast? ≠ some (p / 64)) : Gl.word (put1 g p) (p / 64) = 2 ^ (p % 64) := by
  have h0 : Gl.word g (p / 64) = 0 := word_zero fun d hd => by
    cases hg : g d with
    | false => rfl
    | true =>
      exfalso
      obtain ⟨h1, h2⟩ := h.all d hg
      rw [hd] at h2
      apply hl
      rcases List.eq_nil_or_concat ws with e | ⟨l, z, e⟩
      · subst e; cases h2
      · rw [List.concat_eq_append] at e
        subst e
        rw [List.getLast?_concat]
        rcases List.mem_append.1 h2 with hx | hx
        · have := (List.pairwise_append.1 h.up).2.2 _ hx z (by simp)
          have := h.low z (by simp)
          omega
        · rw [← List.mem_singleton.1 hx]
  rw [← put1_word, h0, Nat.zero_or]

theorem mcells_last (l : List Nat) (q : Nat) {g g' : Bs} (h : ∀ x ∈ l, Gl.word g x = Gl.word g' x) : (mcells (l ++ [q]) g).set (l.length * 2 + 1) (U (Gl.word g' q)) = mcells (l ++ [q]) g' := by
  rw [mcells_app, mcells_app, List.set_append, if_neg (by rw [mcells_len]; omega), mcells_len, show l.length * 2 + 1 - l.length * 2 = 1 by omega, mcells_congr h]
  rfl
theorem last_split {ws : List Nat} {q : Nat} (h : ws.getLast? = some q) : ∃ l, ws = l ++ [q] := by
  rcases List.eq_nil_or_concat ws with e | ⟨l, z, e⟩
  · subst e; cases h
  · rw [List.concat_eq_append] at e
    subst e
    rw [List.getLast?_concat] at h
    cases h
    exact ⟨l, rfl⟩

set_option maxHeartbeats 2000000 in
theorem bwith_any (B : Nat) (v : Value) (ws : List Nat) (g : Bs) (p : Nat) (w : World) (h : w.ownsRow B 113 2 v ws.length (mcells ws g)) (hm : Mks ws g p) (hp : p ≤ 17179869184) (hl : ws.length ≤ 17179869184) (hB : B ≤ w.heap.size) :
    Calls Try.prog 81 #[v, .int .i64 p] w fun e w' => ∃ v', e = .returned v' ∧ w'.ownsRow B 113 2 v' (nextW ws (p / 64)).length (mcells (nextW ws (p / 64)) (put1 g p)) ∧ w.grownBy w' v.ownBlock ∧ (v'.ownBlock = v.ownBlock ∨ ∃ q, v'.ownBlock = some q ∧ w.heap.size ≤ q) := by
  obtain ⟨q, hq⟩ : ∃ q, p / 64 = q := ⟨_, rfl⟩
  have hqI : (p : Int) / 64 = q := by omega
  have hqT : (p : Int).tdiv 64 = q := by rw [Int.tdiv_eq_ediv_of_nonneg (by omega)]; exact hqI
  have HO := hidden h
  have HM := hidden hm
  have HQ := hidden hq
  obtain ⟨a, cp, rfl, hcp, ha⟩ := own_shape h
  obtain ⟨n, hn⟩ : ∃ n, ws.length = n := ⟨_, rfl⟩
  have HN := hidden hn
  rw [hn] at hcp hl ⊢
  clear h hm hq hn
  obtain ⟨bt, hbt⟩ : ∃ bt, 2 ^ (p % 64) = bt := ⟨_, rfl⟩
  have hbl : bt < 18446744073709551616 := by
    rw [← hbt]
    have := Nat.pow_lt_pow_right (a := 2) (by decide) (show p % 64 < 64 by omega)
    simpa using this
  have hbw : IntKind.u64.wrap (2 ^ (p % 64)) = (bt : Int) := by
    have e : ((2 : Int) ^ (p % 64)) = ((2 ^ (p % 64) : Nat) : Int) := by rw [Int.natCast_pow]; rfl
    rw [e, hbt]
    simp [IntKind.wrap, IntKind.bits, IntKind.signed]
    omega
  have HBT := hidden hbt
  clear hbt
  go_enter Try.func81, Try.ntmps81
  go_wp2_with fail
  go_quiet (fail)
  rw [hbw]
  have HO2 := hidden (owns_later HO.out (below_drewN (Below.refl _ w) nq))
  rw [HN.out] at HO2
  have HG2 := hidden (show w.grownBy (w.drewN nq) (Value.slice a n cp).ownBlock from ⟨rfl, rfl, rfl, Nat.le_refl _, fun _ _ _ => rfl⟩)
  have HS2 := hidden (show (w.drewN nq).heap.size = w.heap.size from rfl)
  clear HO hbw
  generalize World.drewN w nq = W2 at HO2 HG2 HS2 ⊢
  clear nq
  have hBW : B ≤ W2.heap.size := by rw [HS2.out]; exact hB
  by_cases hlast : ws.getLast? = some q
  · have hn0 : 0 < n := by
      rw [← HN.out]
      rcases Nat.eq_zero_or_pos ws.length with h | h
      · rw [List.eq_nil_of_length_eq_zero h] at hlast; cases hlast
      · exact h
    obtain ⟨m, rfl⟩ : ∃ m, n = m + 1 := ⟨n - 1, by omega⟩
    have hx : ws[m]? = some q := by
      rw [List.getLast?_eq_getElem?, HN.out] at hlast
      exact hlast
    obtain ⟨gw, rfl⟩ : ∃ gw, a = some ⟨gw, 0, none⟩ := by
      obtain ⟨gw, c2, e, _⟩ := HO2.out.form (by omega)
      cases e
      exact ⟨gw, rfl⟩
    obtain ⟨d0, d1⟩ := mcells_at ws g m q hx
    obtain ⟨wd, hwd⟩ : ∃ wd, Gl.word g q = wd := ⟨_, rfl⟩
    rw [hwd] at d1
    have hwl : wd < 18446744073709551616 := by rw [← hwd]; exact Gl.word_lt g q
    have c0 : W2.cell? ⟨gw, m * 2, none⟩ = some (.int .i64 q) := by rw [HO2.out.cellAt (m * 2) (by omega), d0]
    have c1 : W2.cell? ⟨gw, m * 2 + 1, none⟩ = some (.int .u64 wd) := by rw [HO2.out.cellAt (m * 2 + 1) (by omega), d1]
    have cf : W2.frozen? ⟨gw, m * 2 + 1, none⟩ = false := HO2.out.frozenAt _
    obtain ⟨nw, hnw⟩ : ∃ nw, wd ||| bt = nw := ⟨_, rfl⟩
    have hor : bits BinOp.or IntKind.u64 (wd : Int) (bt : Int) = (nw : Int) := by rw [u64_or_nat wd bt hwl hbl, hnw]
    have HNW := hidden (show Gl.word (put1 g p) q = nw by rw [← HQ.out, ← put1_word, HQ.out, hwd, HBT.out, hnw])
    have HNX := hidden (show nextW ws q = ws from if_pos hlast)
    have HLA := hidden hlast
    have hd : ((q : Int) == (q : Int)) = true := by simp
    clear d0 d1 hx hwd hnw hlast
    go_wp2_with fail
    go_ret
    obtain ⟨l, rfl⟩ := last_split HLA.out
    have hl := HN.out
    rw [List.length_append, List.length_singleton] at hl
    have hlm : l.length = m := by omega
    obtain ⟨s1, s2⟩ := HO2.out.stored (m * 2 + 1) (.int .u64 nw)
    have e := mcells_last l q (g := g) (g' := put1 g p) (fun x hx => put1_far g p x (fun e => by
      have := (List.pairwise_append.1 HM.out.up).2.2 x hx q (by simp)
      rw [e, HQ.out] at this
      omega))
    rw [HNW.out, hlm] at e
    rw [e] at s1
    refine ⟨_, rfl, by rw [HQ.out, HNX.out, HN.out]; exact s1, ?_, Or.inl rfl⟩
    exact ⟨s2.os.trans HG2.out.os, s2.tape.trans HG2.out.tape, s2.output.trans HG2.out.output, by have := s2.size; have := HS2.out; omega, fun k hk hne => (s2.block k (by have := HS2.out; omega) hne).trans (HG2.out.block k hk hne)⟩
  · have HAP := hidden (show nextW ws q = ws ++ [q] ∧ mcells (ws ++ [q]) (put1 g p) = mcells ws g ++ [.int .i64 q, .int .u64 bt] from ⟨if_neg hlast, by
      have h1 := HM.out.word0 (by rw [HQ.out]; exact hlast)
      rw [HQ.out, HBT.out] at h1
      rw [mcells_app, ← mcells_congr (g := g) (fun x hx => put1_far g p x (fun e => by
        rw [HQ.out] at e
        subst e
        apply hlast
        obtain ⟨j, hj⟩ := List.mem_iff_getElem?.1 hx
        rcases List.eq_nil_or_concat ws with e | ⟨l, z, e⟩
        · subst e; cases hx
        · rw [List.concat_eq_append] at e
          subst e
          rw [List.getLast?_concat]
          rcases List.mem_append.1 hx with hx | hx
          · have := (List.pairwise_append.1 HM.out.up).2.2 x hx z (by simp)
            have := HM.out.low z (by simp)
            have := HQ.out
            omega
          · rw [← List.mem_singleton.1 hx]))]
      simp [mcells, h1]⟩)
    by_cases hn0 : n = 0
    · subst hn0
      have hd : decide ((0 : Int) > 0) = false := by decide
      go_wp2_with (at_builtin; go_must (refine wpList_app rfl (.tmp 38) (.tmp 42) 105 113 rfl (.agg #[.int .i64 0, .int .u64 0]) 2 16 Try.underlying105 Try.infoMark rfl (by decide) B W2.heap.size _ _ (mcells ws g) [.int .i64 q, .int .u64 bt] rfl rfl (owns_later HO2.out (by (with_reducible (repeat (first | exact Below.refl _ _ | exact Below.refl _ _ | apply bel_alloc | apply bel_put | apply bel_set | apply Below.drew | apply below_drewN | assumption | omega))))) rfl (fun u hu => by simp only [List.mem_cons, List.not_mem_nil, or_false] at hu; rcases hu with rfl | rfl <;> rfl) (cells_new W2 _ _ rfl _) (by omega) (by decide) (by simp; omega) ?_; intro g9 c9 w9 hown9 hg9 hl9; have HO9 := hidden hown9; have HG9 := hidden hg9; have HL9 := hidden hl9; clear hown9 hg9 hl9))
      go_ret
      refine ⟨_, rfl, ?_, ?_, ?_⟩
      · rw [HQ.out, HAP.out.1, HAP.out.2, List.length_append, List.length_singleton, HN.out]
        exact HO9.out
      · exact ⟨HG9.out.os.trans HG2.out.os, HG9.out.tape.trans HG2.out.tape, HG9.out.output.trans HG2.out.output, by have := HG9.out.size; simp at this; have := HS2.out; omega, fun k hk hne => (HG9.out.block k (by simp; have := HS2.out; omega) hne).trans ((Below.heap_alloc _ _ _ (by have := HS2.out; omega)).trans (HG2.out.block k hk hne))⟩
      · rcases HL9.out with h | h
        · exact Or.inl h
        · exact Or.inr ⟨g9, rfl, by rw [h]; simp; have := HS2.out; omega⟩
    · obtain ⟨m, rfl⟩ : ∃ m, n = m + 1 := ⟨n - 1, by omega⟩
      obtain ⟨x, hx⟩ : ∃ x, ws[m]? = some x := ⟨ws[m]'(by rw [HN.out]; omega), List.getElem?_eq_getElem _⟩
      have hne : x ≠ q := fun e => hlast (by rw [List.getLast?_eq_getElem?, HN.out, ← e]; exact hx)
      obtain ⟨gw, rfl⟩ : ∃ gw, a = some ⟨gw, 0, none⟩ := by
        obtain ⟨gw, c2, e, _⟩ := HO2.out.form (by omega)
        cases e
        exact ⟨gw, rfl⟩
      obtain ⟨d0, d1⟩ := mcells_at ws g m x hx
      have c0 : W2.cell? ⟨gw, m * 2, none⟩ = some (.int .i64 x) := by rw [HO2.out.cellAt (m * 2) (by omega), d0]
      have hd : ((x : Int) == (q : Int)) = false := by simp; omega
      clear d0 d1 hx hlast
      go_wp2_with (at_builtin; go_must (refine wpList_app rfl (.tmp 38) (.tmp 42) 105 113 rfl (.agg #[.int .i64 0, .int .u64 0]) 2 16 Try.underlying105 Try.infoMark rfl (by decide) B W2.heap.size _ _ (mcells ws g) [.int .i64 q, .int .u64 bt] rfl rfl (owns_later HO2.out (by (with_reducible (repeat (first | exact Below.refl _ _ | exact Below.refl _ _ | apply bel_alloc | apply bel_put | apply bel_set | apply Below.drew | apply below_drewN | assumption | omega))))) rfl (fun u hu => by simp only [List.mem_cons, List.not_mem_nil, or_false] at hu; rcases hu with rfl | rfl <;> rfl) (cells_new W2 _ _ rfl _) (by omega) (by decide) (by simp; omega) ?_; intro g9 c9 w9 hown9 hg9 hl9; have HO9 := hidden hown9; have HG9 := hidden hg9; have HL9 := hidden hl9; clear hown9 hg9 hl9))
      go_ret
      refine ⟨_, rfl, ?_, ?_, ?_⟩
      · rw [HQ.out, HAP.out.1, HAP.out.2, List.length_append, List.length_singleton, HN.out]
        exact HO9.out
      · exact ⟨HG9.out.os.trans HG2.out.os, HG9.out.tape.trans HG2.out.tape, HG9.out.output.trans HG2.out.output, by have := HG9.out.size; simp at this; have := HS2.out; omega, fun k hk hne => (HG9.out.block k (by simp; have := HS2.out; omega) hne).trans ((Below.heap_alloc _ _ _ (by have := HS2.out; omega)).trans (HG2.out.block k hk hne))⟩
      · rcases HL9.out with h | h
        · exact Or.inl h
        · exact Or.inr ⟨g9, rfl, by rw [h]; simp; have := HS2.out; omega⟩

end Go.Proofs.Ytmbalnjobcgpkaa

namespace Go.Proofs.Ytmbalnjobcgpkaa
open Go.RowKit Go.Proofs.Ytmbalnjobcgpkaa.Ln Go.Proofs.Ytmbalnjobcgpkaa.Ol

/-- neither cells nor a map -/
def quietO : Obj → Bool
  | .cells .. => false
  | .map .. => false
  | _ => true
/-- all else lies as it lay -/
structure KeepsQ (W W' : World) : Prop where
  size : W.heap.size ≤ W'.heap.size
  same : ∀ (k : Nat) o, W.heap[k]? = some o → quietO o = true → W'.heap[k]? = some o
theorem KeepsQ.trans {A B C : World} (h : KeepsQ A B) (k : KeepsQ B C) : KeepsQ A C := ⟨Nat.le_trans h.size k.size, fun i o ho hq => k.same i o (h.same i o ho hq) hq⟩
theorem KeepsQ.of_below {W W' : World} (h : Below W.heap.size W W') : KeepsQ W W' := ⟨h.size, fun k _ hk _ => (h.block k (Array.getElem?_eq_some_iff.1 hk).1).trans hk⟩
/-- what is turned is of those kinds -/
theorem KeepsQ.grown {W W' : World} {row : Option Nat} (h : W.grownBy W' row) (hr : ∀ k o, row = some k → W.heap[k]? = some o → quietO o = false) : KeepsQ W W' := ⟨h.size, fun k o hk hq => (h.block k (Array.getElem?_eq_some_iff.1 hk).1 (fun e => by have := hr k o e.symm hk; rw [this] at hq; cases hq)).trans hk⟩
theorem KeepsQ.setCell (W : World) (a : Addr) (u : Value) : KeepsQ W (W.setCell a u) := ⟨by simp, fun k o hk hq => by
  by_cases e : k = a.block
  · subst e
    obtain ⟨hlt, hv⟩ := Array.getElem?_eq_some_iff.1 hk
    show (W.heap.modify a.block _)[a.block]? = _
    rw [Array.getElem?_eq_getElem (by rw [Array.size_modify]; exact hlt), Array.getElem_modify_self, hv]
    cases o <;> first | rfl | cases hq
  · exact (heap_setCell_other W a k u e).trans hk⟩
/-- how a round's body may be left -/
def bPostQ {α : Type} (St : α → Prop) (I : α → World → Prop) (Ix : Code → World → Prop) (W : World) : Exit → Act → World → Prop
  | .normal, _, W' => KeepsQ W W' ∧ ∃ y, St y ∧ I y W'
  | .ret, _, W' => KeepsQ W W' ∧ Ix .ret W'
  | .exit id, _, W' => KeepsQ W W' ∧ Ix (.exit id) W'
  | .goto t, _, W' => KeepsQ W W' ∧ Ix (.goto t) W'
  | .panic _, _, _ => False
  | .outgrown, _, _ => False

theorem wp_range_quiet {P : Program} {α : Type} {g : Operand} {ps : Array Tmp} {assign body : Code} {Q : Exit → Act → World → Prop} {a : Act} {w : World} {gf : Nat} {lb : Array Value}
    (hg : a.eval g = .func (.func gf) #[] lb) (eg : ∀ args w, (callFunc gf args).run P w = .ok (.enter gf args) w) 
    (I : α → World → Prop) (Ix : Code → World → Prop) (Step : α → Array Value → α → Prop) (Done : α → Prop) (hsz : ∀ x v y, Step x v y → v.size = ps.size)
    (hal : ∀ x W o, I x W → I x (W.alloc o))
    (hI : ∀ x W l o o', I x W → w.heap.size ≤ l → W.heap[l]? = some o → quietO o = true → I x (W.putObj l o'))
    (hIx : ∀ c W l o o', Ix c W → w.heap.size ≤ l → W.heap[l]? = some o → quietO o = true → Ix c (W.putObj l o'))
    (x0 : α) (h0 : I x0 w)
    (hround : ∀ (l : Nat) (x y0 : α) (v : Array Value) (W : World), I x W → Step x v y0 → w.heap.size ≤ l → l < W.heap.size → (∃ o, W.heap[l]? = some o ∧ quietO o = true) → assign.wpIn (Fence.wide.inRound l) 3 P (Exit.then (fun a₁ W1 => KeepsQ W W1 ∧ ∀ o', body.wpIn (Fence.wide.inRound l) 3 P (bPostQ (Step x v) I Ix (W1.putObj l o')) a₁ (W1.putObj l o')) (fun _ _ _ => False)) { tmps := (ps.zip v).foldl (fun t (p, v) => t.setIfInBounds p v) a.tmps, defers := [] } W)
    (hiter : ∀ (l : Nat) (J : α → World → Prop) (Jx : World → Prop) (W : World), (∀ x W, J x W → I x W) → (∀ x y W W', J x W → I y W' → KeepsQ W W' → J y W') → J x0 W →
      (∀ x v y0 W, Step x v y0 → J x W → ∀ m, YieldAt Fence.wide m P l v W fun e W' => (e = .returned (.bool true) ∧ ∃ y, Step x v y ∧ J y W') ∨ (e = .returned (.bool false) ∧ Jx W')) →
      Calls P gf (#[.func (.yield l) #[] #[]] ++ lb) W fun e W' => (∃ v, e = .returned v) ∧ ((∃ x, J x W' ∧ Done x) ∨ Jx W'))
    (hdone : ∀ (D : Nat) (x : α) (W : World), w.heap.size ≤ D → Done x → I x W → W.heap[D]? = some (.deferred (some [])) → (∀ k, k < w.heap.size → (∃ o, w.heap[k]? = some o ∧ quietO o = true) → W.heap[k]? = w.heap[k]?) → Q .normal { a with defers := { target := .collected D, args := #[] } :: a.defers } W)
    (hstop : ∀ (D : Nat) (c : Code) (W : World), w.heap.size ≤ D → Ix c W → W.heap[D]? = some (.deferred (some [])) → (∀ k, k < w.heap.size → (∃ o, w.heap[k]? = some o ∧ quietO o = true) → W.heap[k]? = w.heap[k]?) → c.wp P Q { a with defers := { target := .collected D, args := #[] } :: a.defers } W) :
    (Code.rangeFunc g ps assign body).wp P Q a w := by
  refine (wpIn_wide (n := 5)).1 (wpIn_rangeFunc ?_)
  intro fn hfn
  obtain ⟨rec, hrec⟩ : ∃ rec : LoopState → Option Code → Loop, rec = fun st pe => { state := st, pending := pe, fn, tmps := a.tmps, params := ps, assign, body, defers := w.heap.size } := ⟨_, rfl⟩
  obtain ⟨W1, hW1⟩ : ∃ W1, (w.alloc (.deferred (some []))).alloc (.loop (rec .ready none)) = W1 := ⟨_, rfl⟩
  have hL1 : W1.heap[w.heap.size + 1]? = some (.loop (rec .ready none)) := by
    rw [← hW1]; have := World.alloc_heap_new (w.alloc (.deferred (some []))) (.loop (rec .ready none)); rwa [World.size_alloc] at this
  have hK1 : W1.heap[w.heap.size]? = some (.deferred (some [])) := by
    rw [← hW1]; exact (Below.heap_alloc _ _ _ (by simp)).trans (World.alloc_heap_new w _)
  have hI1 : I x0 W1 := by rw [← hW1]; exact hal _ _ _ (hal _ _ _ h0)
  have hO1 : ∀ k, k < w.heap.size → (∃ o, w.heap[k]? = some o ∧ quietO o = true) → W1.heap[k]? = w.heap[k]? := fun k hk _ => by
    rw [← hW1, Below.heap_alloc _ _ _ (by simp; omega), Below.heap_alloc _ _ _ hk]
  have hno : ∀ {A B : World}, KeepsQ A B → (∀ k, k < w.heap.size → (∃ o, w.heap[k]? = some o ∧ quietO o = true) → A.heap[k]? = w.heap[k]?) → ∀ k, k < w.heap.size → (∃ o, w.heap[k]? = some o ∧ quietO o = true) → B.heap[k]? = w.heap[k]? := fun hk hA k hlt ho => by
    obtain ⟨o, h1, h2⟩ := ho
    have h3 := hA k hlt ⟨o, h1, h2⟩
    rw [h1] at h3 ⊢
    exact hk.same k o h3 h2
  have hpo : ∀ {A : World} {l : Nat} (o' : Obj), w.heap.size ≤ l → (∀ k, k < w.heap.size → (∃ o, w.heap[k]? = some o ∧ quietO o = true) → A.heap[k]? = w.heap[k]?) → ∀ k, k < w.heap.size → (∃ o, w.heap[k]? = some o ∧ quietO o = true) → (A.putObj l o').heap[k]? = w.heap[k]? := fun o' hl hA k hlt ho => by
    rw [World.putObj_heap_other (by omega)]; exact hA k hlt ho
  refine ⟨w.heap.size + 1, [{ target := .collected w.heap.size, args := #[] }], W1, { target := .fn (.func gf) lb, args := #[.func (.yield (w.heap.size + 1)) #[] #[]] }, W1, gf,
    #[.func (.yield (w.heap.size + 1)) #[] #[]] ++ lb, W1, ?_, ?_, ?_, ?_, fun _ => by omega, ?_⟩
  · rw [← hW1, hrec]; exact run_enterLoop_outer _ _ _ _ _
  · simp only [resolve, hg]
    simp [go_sem]
  · intro f' hf'; trivial
  · simp [invoke, go_sem, eg]
  · refine callsIn_wide.2 ((hiter (w.heap.size + 1)
      (fun x W => I x W ∧ W.heap[w.heap.size + 1]? = some (.loop (rec .ready none)) ∧ W.heap[w.heap.size]? = some (.deferred (some [])) ∧ ∀ k, k < w.heap.size → (∃ o, w.heap[k]? = some o ∧ quietO o = true) → W.heap[k]? = w.heap[k]?)
      (fun W => ∃ c, Ix c W ∧ W.heap[w.heap.size + 1]? = some (.loop (rec .done (some c))) ∧ W.heap[w.heap.size]? = some (.deferred (some [])) ∧ ∀ k, k < w.heap.size → (∃ o, w.heap[k]? = some o ∧ quietO o = true) → W.heap[k]? = w.heap[k]?)
      W1 (fun _ _ h => h.1) (fun x y A B hJ hy hk => ⟨hy, hk.same _ _ hJ.2.1 rfl, hk.same _ _ hJ.2.2.1 rfl, hno hk hJ.2.2.2⟩) ⟨hI1, hL1, hK1, hO1⟩ ?_).mono ?_)
    · -- one round
      rintro x v y0 W hstep ⟨hi, hl, hk, hoo⟩ m
      have hlt : w.heap.size + 1 < W.heap.size := (Array.getElem?_eq_some_iff.1 hl).1
      have hy := run_yield (P := P) (args := v) hl (by rw [hrec]; exact hsz x v y0 hstep)
      rw [hrec] at hy
      refine ⟨fn, _, assign, body, hy, roundIn_any (m := 3) (roundIn_of_wpIn hfn (wpIn_mono (hround (w.heap.size + 1) x y0 v W hi hstep (by omega) hlt ⟨_, hl, rfl⟩) ?_))⟩
      rintro e a1 W1 hp1
      cases e with
      | normal =>
        obtain ⟨hk1, hb1⟩ := hp1
        have hl1 := hk1.same _ _ hl rfl
        have hlt1 : w.heap.size + 1 < W1.heap.size := (Array.getElem?_eq_some_iff.1 hl1).1
        have hkk1 := hk1.same _ _ hk rfl
        have hoo1 := hno hk1 hoo
        refine ⟨_, run_beginRound hl1 (by rw [hrec]), ?_⟩
        refine wpIn_mono (hb1 _) ?_
        have hl2 : (W1.putObj (w.heap.size + 1) (.loop { rec .ready none with state := .busy })).heap[w.heap.size + 1]? = some (.loop { rec .ready none with state := .busy }) := World.putObj_heap_same hlt1
        have hk2 : (W1.putObj (w.heap.size + 1) (.loop { rec .ready none with state := .busy })).heap[w.heap.size]? = some (.deferred (some [])) := (World.putObj_heap_other (by omega)).trans hkk1
        have ho2 := hpo (A := W1) (l := w.heap.size + 1) (.loop { rec .ready none with state := .busy }) (by omega) hoo1
        have fin : ∀ (jump : Option Code) (W3 : World), KeepsQ (W1.putObj (w.heap.size + 1) (.loop { rec .ready none with state := .busy })) W3 →
            (Instr.endRound (w.heap.size + 1) jump).run P W3 = .ok (.bool jump.isNone) (W3.putObj (w.heap.size + 1) (.loop (rec (if jump.isNone then .ready else .done) jump))) ∧
            W3.heap[w.heap.size + 1]? = some (.loop { rec .ready none with state := .busy }) ∧
            (W3.putObj (w.heap.size + 1) (.loop (rec (if jump.isNone then .ready else .done) jump))).heap[w.heap.size + 1]? = some (.loop (rec (if jump.isNone then .ready else .done) jump)) ∧
            (W3.putObj (w.heap.size + 1) (.loop (rec (if jump.isNone then .ready else .done) jump))).heap[w.heap.size]? = some (.deferred (some [])) ∧
            (∀ k, k < w.heap.size → (∃ o, w.heap[k]? = some o ∧ quietO o = true) → (W3.putObj (w.heap.size + 1) (.loop (rec (if jump.isNone then .ready else .done) jump))).heap[k]? = w.heap[k]?) := fun jump W3 hk3 => by
          have hl3 := hk3.same _ _ hl2 rfl
          have := run_endRound (P := P) jump hl3
          rw [hrec] at this ⊢
          exact ⟨this, by rw [hrec] at hl3; exact hl3, World.putObj_heap_same (Array.getElem?_eq_some_iff.1 hl3).1, (World.putObj_heap_other (by omega)).trans (hk3.same _ _ hk2 rfl), hpo _ (by omega) (hno hk3 ho2)⟩
        rintro e a3 W3 hp
        cases e with
        | normal =>
          obtain ⟨hk3, y, hs3, hi3⟩ := hp
          obtain ⟨hr, hl3, hl4, hk4, ho4⟩ := fin none W3 hk3
          exact ⟨_, _, hr, .inl ⟨rfl, y, hs3, hI _ _ _ _ _ hi3 (by omega) hl3 rfl, hl4, hk4, ho4⟩⟩
        | ret =>
          obtain ⟨hk3, hi3⟩ := hp
          obtain ⟨hr, hl3, hl4, hk4, ho4⟩ := fin (some .ret) W3 hk3
          exact ⟨_, _, hr, .inr ⟨rfl, .ret, hIx _ _ _ _ _ hi3 (by omega) hl3 rfl, hl4, hk4, ho4⟩⟩
        | exit id =>
          obtain ⟨hk3, hi3⟩ := hp
          obtain ⟨hr, hl3, hl4, hk4, ho4⟩ := fin (some (.exit id)) W3 hk3
          exact ⟨_, _, hr, .inr ⟨rfl, .exit id, hIx _ _ _ _ _ hi3 (by omega) hl3 rfl, hl4, hk4, ho4⟩⟩
        | goto t =>
          obtain ⟨hk3, hi3⟩ := hp
          obtain ⟨hr, hl3, hl4, hk4, ho4⟩ := fin (some (.goto t)) W3 hk3
          exact ⟨_, _, hr, .inr ⟨rfl, .goto t, hIx _ _ _ _ _ hi3 (by omega) hl3 rfl, hl4, hk4, ho4⟩⟩
        | panic ch => exact hp.elim
        | outgrown => exact hp.elim
      | _ => exact hp1.elim
    · -- behind the iterator
      rintro e W2 ⟨⟨v, rfl⟩, (⟨x, ⟨hi, hl, hk, hoo⟩, hd⟩ | ⟨c, hi, hl, hk, hoo⟩)⟩
      · exact ⟨none, _, by have := run_endLoop (P := P) hl (by rw [hrec]; simp); rw [hrec] at this; exact this, hdone _ x _ (Nat.le_refl _) hd (hI _ _ _ _ _ hi (by omega) hl rfl) ((World.putObj_heap_other (by omega)).trans hk) (hpo _ (by omega) hoo)⟩
      · exact ⟨some c, _, by have := run_endLoop (P := P) hl (by rw [hrec]; simp); rw [hrec] at this; exact this, wpIn_wide.2 (hstop _ c _ (Nat.le_refl _) (hIx _ _ _ _ _ hi (by omega) hl rfl) ((World.putObj_heap_other (by omega)).trans hk) (hpo _ (by omega) hoo))⟩

theorem operIn_of_oper {P : Program} {l n : Nat} {o : Oper} {a : Act} {w : World} {K : Act → World → Prop} {Q : Exit → Act → World → Prop} (hnd : ∀ c, o.op ≠ .defer c) (h : o.wp P a w K Q) : o.wpIn (Fence.wide.inRound l) n P a w K Q := by
  unfold Oper.wp at h
  unfold Oper.wpIn
  refine ⟨fun f _ => trivial, ?_⟩
  rw [show (Fence.wide.inRound l).round = some l from rfl, Oper.semAt_some l _ _ hnd]
  generalize (execOp a.eval o).run P w = r at h
  cases r with
  | ok x w' =>
    cases x with
    | value v => exact h
    | skip => exact h
    | defer d => exact h
    | enter f args => exact ⟨fun hh => (by cases hh), CallsIn.inRound l (callsIn_wide.2 h)⟩
    | row r args =>
      refine ⟨fun hh => (by cases hh), fun c cs _ => ?_⟩
      obtain ⟨v, w'', hr, hs⟩ := h c cs
      exact ⟨v, w'', hr, stepsIn_wide.2 hs⟩
    | _ => exact h.elim
  | halt x w' =>
    cases x with
    | panic v => exact h
    | _ => exact h.elim
theorem wpAnyIn_of_any {P : Program} {l n : Nat} {ops : Array Oper} {md : Region.Mode} {Q : Exit → Act → World → Prop} (hnd : ∀ (i : Nat) (o : Oper), ops[i]? = some o → ∀ c, o.op ≠ .defer c) (hl : ¬ LetsOut Q) : ∀ (fuel : Nat) (listed : Array Bool) (a : Act) (w : World), wpAny P md ops Q fuel listed a w → wpAnyIn (Fence.wide.inRound l) n P md ops Q fuel listed a w := by
  intro fuel
  induction fuel with
  | zero => intro listed a w h; exact h
  | succ fuel ih =>
    intro listed a w h
    refine ⟨h.1, fun i hi => ?_⟩
    have h2 := h.2 i hi
    unfold wpOp at h2
    unfold wpOpIn
    cases ho : ops[i]? with
    | none => rw [ho] at h2; exact ih _ a w h2
    | some o =>
      rw [ho] at h2
      simp only at h2 ⊢
      by_cases hw : Region.wanted o (yielded ops a.tmps) = true
      · rw [if_pos hw] at h2 ⊢
        rcases h2 with h2 | h2
        · exact operIn_of_oper (hnd i o ho) (Oper.wp_mono (fun a' w' => ih _ a' w') h2)
        · exact absurd h2.2 hl
      · rw [if_neg hw] at h2 ⊢
        exact ⟨fun _ _ => trivial, ih _ _ _ h2⟩
/-- a region in a round -/
theorem wpIn_region_round {P : Program} {l n id : Nat} {ops : Array Oper} {Q : Exit → Act → World → Prop} {a : Act} {w : World} (hm : P.follows .mixedOrders = true) (hnd : ops.all (fun o => match o.op with | .defer _ => false | _ => true) = true) (hl : ¬ LetsOut Q) (h : wpAny P .any ops Q ops.size (Array.replicate ops.size false) a w.drew) : (Code.region id ops true).wpIn (Fence.wide.inRound l) n P Q a w := by
  refine wpIn_region_any hm (wpAnyIn_of_any (fun i o ho c e => ?_) hl _ _ _ _ h)
  have h1 := Array.all_eq_true.1 hnd i (Array.getElem?_eq_some_iff.1 ho).1
  rw [(Array.getElem?_eq_some_iff.1 ho).2, e] at h1
  cases h1
/-- a region in a round, all that it reads taken first -/
theorem wpIn_region_held {P : Program} {l n id : Nat} {ops : Array Oper} {Q : Exit → Act → World → Prop} {a : Act} {w : World} {S : World → Prop} (hm : P.follows .mixedOrders = true) (hnd : ops.all (fun o => match o.op with | .defer _ => false | _ => true) = true) (hl : ¬ LetsOut Q) (hS : S w.drew) (h : S w.drew → wpAnyH P .any ops Q S ops.size (Array.replicate ops.size false) a w.drew) : (Code.region id ops true).wpIn (Fence.wide.inRound l) n P Q a w :=
  wpIn_region_round hm hnd hl (wpAny_of_held _ _ _ _ (h hS))

end Go.Proofs.Ytmbalnjobcgpkaa

namespace Go.Proofs.Ytmbalnjobcgpkaa
open Go.RowKit Go.Proofs.Ytmbalnjobcgpkaa.Ln Go.Proofs.Ytmbalnjobcgpkaa.Ol

theorem backw_any (a : Option Addr) (n c : Nat) (w : World) : Calls Try.prog 80 #[.slice a n c] w fun e w' => e = .returned (.func (.func 87) #[] #[.pointer (some ⟨w.heap.size, 0, none⟩)]) ∧ w' = w.alloc (.cells #[.slice a n c] 28) := by
  go_enter Try.func80, Try.ntmps80
  go_wp2
  go_ret
  exact ⟨rfl, rfl⟩

set_option maxHeartbeats 2000000 in
theorem backw1_any (xs : List Tx) (a : Option Addr) (n cp bl l : Nat) (hn : xs.length = n) (hnb : n ≤ 4294967296) (J : Nat → World → Prop) (Jx : World → Prop)
    (hb : ∀ p W, J p W → Boxed W bl 28 (.slice a n cp))
    (hr : ∀ p W, J p W → RowAt W (.slice a n cp) xs)
    (hY : ∀ p x W, xs[n - 1 - p]? = some x → p < n → J p W → ∀ m, YieldAt Fence.wide m Try.prog l #[.int .i64 (((n - 1 - p : Nat) : Int)), .string ⟨x.toArray⟩] W fun e W' => (e = .returned (.bool true) ∧ J (p + 1) W') ∨ (e = .returned (.bool false) ∧ Jx W'))
    (W : World) (h0 : J 0 W) :
    Calls Try.prog 87 #[.func (.yield l) #[] #[], .pointer (some ⟨bl, 0, none⟩)] W fun e W' => (∃ v, e = .returned v) ∧ (J n W' ∨ Jx W') := by
  have HY := hidden hY
  have HR := hidden hr
  have HBX := hidden hb
  have HJ := hidden h0
  have HN := hidden hn
  have z0 := (hb 0 W h0).cell
  clear hb hr hY hn
  go_enter Try.func87, Try.ntmps87
  go_wp2_with fail
  go_loopw [3] (fun i wr => ∃ p : Nat, p ≤ n ∧ i = .int .i64 ((n : Int) - 1 - p) ∧ Hid (J p wr)) (fun i _ => ((intOf i) + 1).toNat)
  case atStart => exact ⟨0, Nat.zero_le _, by simp, HJ.out⟩
  case round =>
    obtain ⟨p, hp, rfl, hj⟩ := hrel
    clear HJ
    have z1 := (HBX.out p wr hj.out).cell
    by_cases hlt : p < n
    · obtain ⟨j, hjj⟩ : ∃ j, n - 1 - p = j := ⟨_, rfl⟩
      have hji : (n : Int) - 1 - p = j := by omega
      obtain ⟨x, hx⟩ : ∃ x, xs[j]? = some x := ⟨xs[j]'(by rw [HN.out]; omega), List.getElem?_eq_getElem _⟩
      obtain ⟨b, o, cap, e, hcap, hbl, hc⟩ := (HR.out p wr hj.out).cells (by intro e; have := HN.out; rw [e] at this; simp at this; omega)
      rw [HN.out] at hcap
      have e2 := e
      rw [HN.out] at e2
      cases e2
      have c0 : wr.cell? ⟨b, o + j, none⟩ = some (.string ⟨x.toArray⟩) := hc j x hx
      have hjn : j < n := by omega
      rw [hji]
      have HX := hidden (show xs[n - 1 - p]? = some x by rw [hjj]; exact hx)
      have HJJ := hidden hjj
      have HJ := hidden hj.out
      clear hj hc hx e
      go_upto_region 3 with fail
      refine (wpIn_wide (n := 3)).1 ?_
      obtain ⟨fn, tmps, assign, body, hy, hRo⟩ := HY.out p x wr HX.out hlt HJ.out (3 - 1)
      rw [HJJ.out] at hy
      gi_wp2
      refine hRo.mono ?_
      clear hy hRo c0
      rintro e w4 (⟨rfl, hJ4⟩ | ⟨rfl, hx4⟩)
      · have HJ4 := hidden hJ4
        have hJJ := HJJ.out
        clear hJ4
        gi_wp2
        go_wp2_with fail
        go_roundw
        case rel => exact ⟨p + 1, by omega, by go_num, HJ4.out⟩
        case measure => simp [intOf]
      · have HX4 := hidden hx4
        clear hx4
        gi_wp2
        go_wp2_with fail
        refine bodyPost_ret (results_none rfl _ _ _) rfl ?_
        exact ⟨⟨_, rfl⟩, Or.inr HX4.out⟩
    · obtain rfl : p = n := by omega
      have hz : (p : Int) - 1 - p = -1 := by omega
      rw [hz]
      go_wp2_with fail
      go_end0
      exact ⟨⟨_, rfl⟩, Or.inl hj.out⟩

end Go.Proofs.Ytmbalnjobcgpkaa

namespace Go.Proofs.Ytmbalnjobcgpkaa
open Go.RowKit Go.Proofs.Ytmbalnjobcgpkaa.Ln Go.Proofs.Ytmbalnjobcgpkaa.Ol
open Go.Maps (Keyed)

/-- which sort a text is of -/
def sidx (d : List Tx) (x : Tx) : Nat := if x ∈ d then d.idxOf x + 1 else 0
theorem sidx_le (d : List Tx) (x : Tx) : sidx d x ≤ d.length := by
  unfold sidx
  split
  · have := List.idxOf_lt_length_iff.2 (by assumption); omega
  · omega
theorem sidx_at {d : List Tx} {x : Tx} (h : x ∈ d) : ∃ s, sidx d x = s + 1 ∧ d[s]? = some x := by
  refine ⟨d.idxOf x, if_pos h, ?_⟩
  rw [List.getElem?_eq_getElem (List.idxOf_lt_length_iff.2 h), List.getElem_idxOf]
theorem sidx_snoc (d : List Tx) (x y : Tx) (h : x ∉ d) : sidx (d ++ [x]) y = if y = x then d.length + 1 else sidx d y := by
  by_cases e : y = x
  · subst e
    rw [if_pos rfl]
    unfold sidx
    rw [if_pos (by simp), List.idxOf_append, if_neg h]
    simp
  · rw [if_neg e]
    unfold sidx
    by_cases hy : y ∈ d
    · rw [if_pos hy, if_pos (by simp [hy]), List.idxOf_append, if_pos hy]
    · rw [if_neg hy, if_neg (by simp [hy, e])]
theorem lawStr : Keyed Try.prog 9 := Maps.string_keyed Try.underlying9
theorem zeroInt (w : World) : (zeroValue 3).run Try.prog w = .ok (.int .i64 0) w := by kernel_rfl
/-- the map tells the sorts -/
structure KM {H : Type} (mb n : Nat) (d : List Tx) (D : DataW H) (W : World) : Prop where
  own : W.ownsMap Try.prog 9 (plainElem Try.prog 3) mb n D
  isM : Maps.IsMap D
  has : ∀ x : Tx, Maps.has D (.string x) = decide (x ∈ d)
  at_ : ∀ x : Tx, D.atKey (.string x) (.lit (.int .i64 0)) = .lit (.int .i64 (sidx d x))
theorem KM.put {H : Type} {mb n : Nat} {d : List Tx} {D : DataW H} {W W' : World} (h : KM mb n d D W) {x : Tx} (hx : x ∉ d) (ho : W'.ownsMap Try.prog 9 (plainElem Try.prog 3) mb (n + 1) (D.put (.string x) (.lit (.int .i64 (((d.length + 1 : Nat)) : Int))))) : KM mb (n + 1) (d ++ [x]) (D.put (.string x) (.lit (.int .i64 ((d.length + 1 : Nat) : Int)))) W' := by
  refine ⟨ho, h.isM.put _ _, fun y => ?_, fun y => ?_⟩
  · by_cases e : y = x
    · subst e
      rw [Maps.has_put_same h.isM (show WideAt.IsKeyLit (.string y) from trivial)]; simp
    · rw [Maps.has_put_other (by intro h2; injection h2 with h3; exact e h3), h.has y]
      simp [e]
  · rw [sidx_snoc d x y hx]
    by_cases e : y = x
    · subst e
      rw [if_pos rfl, Maps.atKey_put_same h.isM (show WideAt.IsKeyLit (.string y) from trivial)]
    · rw [if_neg e, Maps.atKey_put_other (by intro h2; injection h2 with h3; exact e h3), h.at_ y]
/-- all cells stay -/
def CellsStay (W W' : World) : Prop := ∀ (k : Nat) cs e fr, W.heap[k]? = some (.cells cs e fr) → W'.heap[k]? = some (.cells cs e fr)
theorem cellsStay_map {H : Type} {W W' : World} {k : TypeId} {R : Value → Option (DataW H × List MemPlace)} {mb n : Nat} {D : DataW H} (h : W.ownsMap Try.prog k R mb n D) (hg : W.grownBy W' (some mb)) : CellsStay W W' := fun i cs e fr hi => by
  obtain ⟨es, cl, hb, _⟩ := h
  rw [hg.block i (Array.getElem?_eq_some_iff.1 hi).1 (fun e => by cases e; rw [hi] at hb; cases hb)]
  exact hi
theorem cellsStay_below {W W' : World} (hb : Below W.heap.size W W') : CellsStay W W' := fun i cs e fr hi => by
  rw [hb.block i (Array.getElem?_eq_some_iff.1 hi).1]; exact hi
theorem own_stay {W W' : World} (hs : CellsStay W W') {B size n : Nat} {e : TypeId} {v : Value} {xs : List Value} (h : W.ownsRow B e size v n xs) : W'.ownsRow B e size v n xs := by
  refine ⟨h.1, ?_⟩
  rcases h.2 with h | ⟨g, cap, cur, hv, hb, hg, r⟩
  · exact Or.inl h
  · exact Or.inr ⟨g, cap, cur, hv, hb, hs _ _ _ _ hg, r⟩
/-- the table's first cell, and the rows of marks -/
structure KR (B1 T K : Nat) (v0 c1 c2 c3 c4 c5 c6 c7 c8 : Value) (vm : Nat → Value) (wsf : Nat → List Nat) (gf : Nat → Bs) (W : World) : Prop where
  tc : TbC W T v0 c1 c2 c3 c4 c5 c6 c7 c8
  tlt : T < B1
  top : W.ownsRow B1 105 1 v0 K ((List.range K).map vm)
  own : ∀ s, s < K → W.ownsRow B1 113 2 (vm s) (wsf s).length (mcells (wsf s) (gf s))
  apart : ∀ s t, s < K → t < K → s ≠ t → (vm s).ownBlock = none ∨ (vm s).ownBlock ≠ (vm t).ownBlock
section
variable {B1 T K : Nat} {v0 c1 c2 c3 c4 c5 c6 c7 c8 : Value} {vm : Nat → Value} {wsf : Nat → List Nat} {gf : Nat → Bs} {W W' : World}
theorem KR.stay (h : KR B1 T K v0 c1 c2 c3 c4 c5 c6 c7 c8 vm wsf gf W) (hs : CellsStay W W') : KR B1 T K v0 c1 c2 c3 c4 c5 c6 c7 c8 vm wsf gf W' :=
  ⟨hs _ _ _ _ h.tc, h.tlt, own_stay hs h.top, fun s hk => own_stay hs (h.own s hk), h.apart⟩
theorem KR.later (h : KR B1 T K v0 c1 c2 c3 c4 c5 c6 c7 c8 vm wsf gf W) (hb : Below W.heap.size W W') : KR B1 T K v0 c1 c2 c3 c4 c5 c6 c7 c8 vm wsf gf W' := h.stay (cellsStay_below hb)
theorem KR.vshape (h : KR B1 T K v0 c1 c2 c3 c4 c5 c6 c7 c8 vm wsf gf W) {s : Nat} (hs : s < K) : ∃ a cp, vm s = .slice a (wsf s).length cp := by
  obtain ⟨a, cp, e, _⟩ := own_shape (h.own s hs)
  exact ⟨a, cp, e⟩
/-- one sort more, without marks -/
theorem KR.more (h : KR B1 T K v0 c1 c2 c3 c4 c5 c6 c7 c8 vm wsf gf W) {g9 q9 : Nat} {W9 : World} (ho : W9.ownsRow B1 105 1 (.slice (some ⟨g9, 0, none⟩) (K + 1) q9) (K + 1) ((List.range K).map vm ++ [.slice none 0 0])) (hg : W.grownBy W9 v0.ownBlock) (u : Value) (hu : u = .slice (some ⟨g9, 0, none⟩) (K + 1) q9) :
    KR B1 T (K + 1) u c1 c2 c3 c4 c5 c6 c7 c8 (fun s => if s = K then .slice none 0 0 else vm s) (fun s => if s = K then [] else wsf s) (fun s => if s = K then fun _ => false else gf s) (W9.setCell ⟨T, 0, none⟩ u) := by
  subst hu
  have hc := h.tc.grown h.top (by decide) hg
  refine ⟨hc.set0 _, h.tlt, rowT_keep hc ?_ (by decide) 0 _, fun s hs => ?_, fun s t hs ht hne => ?_⟩
  · have e : (List.range (K + 1)).map (fun s => if s = K then Value.slice none 0 0 else vm s) = (List.range K).map vm ++ [.slice none 0 0] := by
      rw [List.range_succ, List.map_append]
      congr 1
      · refine List.map_congr_left fun s hs => ?_
        rw [if_neg (by have := List.mem_range.1 hs; omega)]
      · simp
    rw [e]; exact ho
  · by_cases e : s = K
    · rw [if_pos e, if_pos e, if_pos e]
      exact World.ownsRow_nil _ _ _ _
    · rw [if_neg e, if_neg e, if_neg e]
      exact rowT_keep hc ((h.own s (by omega)).kept hg (own_ne (h.own s (by omega)) h.top (by decide))) (by decide) 0 _
  · by_cases e : s = K
    · rw [if_pos e]; exact Or.inl rfl
    · rw [if_neg e]
      by_cases e2 : t = K
      · rw [if_pos e2]
        cases hv : (vm s).ownBlock with
        | none => exact Or.inl rfl
        | some q => exact Or.inr (fun h => by cases h)
      · rw [if_neg e2]; exact h.apart s t (by omega) (by omega) hne
/-- a sort's marks are others -/
theorem KR.with_ (h : KR B1 T K v0 c1 c2 c3 c4 c5 c6 c7 c8 vm wsf gf W) {s : Nat} (hs : s < K) {v' : Value} {ws' : List Nat} {g' : Bs} (ho : W'.ownsRow B1 113 2 v' ws'.length (mcells ws' g')) (hg : W.grownBy W' (vm s).ownBlock) (hn : v'.ownBlock = (vm s).ownBlock ∨ ∃ q, v'.ownBlock = some q ∧ W.heap.size ≤ q) {gM cM : Nat} (hv0 : v0 = .slice (some ⟨gM, 0, none⟩) K cM) :
    KR B1 T K v0 c1 c2 c3 c4 c5 c6 c7 c8 (fun t => if t = s then v' else vm t) (fun t => if t = s then ws' else wsf t) (fun t => if t = s then g' else gf t) (W'.setCell ⟨gM, s, none⟩ v') := by
  have hc := h.tc.grown (h.own s hs) (by decide) hg
  have ht := h.top.kept hg (own_ne h.top (h.own s hs) (by decide))
  subst hv0
  obtain ⟨s1, s2⟩ := ht.stored s v'
  have hT : T ≠ gM := fun e => own_notT hc ht (by decide) (by rw [e]; rfl)
  have keepM : ∀ {v : Value} {n : Nat} {xs : List Value}, W'.ownsRow B1 113 2 v n xs → (W'.setCell ⟨gM, s, none⟩ v').ownsRow B1 113 2 v n xs := fun hh => hh.kept s2 (own_ne hh ht (by decide))
  refine ⟨hc.other hT, h.tlt, ?_, fun t ht2 => ?_, fun t u ht2 hu hne => ?_⟩
  · have e : ((List.range K).map vm).set s v' = (List.range K).map (fun t => if t = s then v' else vm t) := by
      apply List.ext_getElem?
      intro i
      rw [List.getElem?_set]
      by_cases hi : s = i
      · subst hi; simp [hs]
      · rw [if_neg hi]
        by_cases hi2 : i < K
        · simp [hi2, show ¬ i = s by omega]
        · simp [hi2]
    rw [← e]; exact s1
  · by_cases e : t = s
    · rw [if_pos e, if_pos e, if_pos e]; exact keepM ho
    · rw [if_neg e, if_neg e, if_neg e]
      exact keepM ((h.own t ht2).kept hg (h.apart t s ht2 hs e))
  · by_cases e : t = s
    · rw [if_pos e, if_neg (fun e2 => hne (e.trans e2.symm))]
      rcases hn with hn | ⟨q, hq, hlt⟩
      · rw [hn]; exact h.apart s u hs hu (fun e2 => hne (e.trans e2))
      · rw [hq]
        refine Or.inr fun e2 => ?_
        have := (own_kind (h.own u hu) e2.symm).2.1
        omega
    · rw [if_neg e]
      by_cases e2 : u = s
      · rw [if_pos e2]
        rcases hn with hn | ⟨q, hq, hlt⟩
        · rw [hn]; exact h.apart t s ht2 hs e
        · cases hv : (vm t).ownBlock with
          | none => exact Or.inl rfl
          | some r =>
            refine Or.inr fun e3 => ?_
            rw [hq] at e3
            cases e3
            have := (own_kind (h.own t ht2) hv).2.1
            omega
      · rw [if_neg e2]; exact h.apart t u ht2 hu hne
end
/-- what the sorts and their marks are, when so many lines are gone through -/
structure KP (xs : List Tx) (n p : Nat) (d : List Tx) (wsf : Nat → List Nat) (gf : Nat → Bs) : Prop where
  mks : ∀ s, s < d.length + 1 → Mks (wsf s) (gf s) p
  g0 : ∀ i, gf 0 i = false
  gs : ∀ s, s < d.length → ∀ i, gf (s + 1) i = decide (i < p ∧ xs[n - 1 - i]? = d[s]?)
  nodup : d.Nodup
  len : d.length ≤ p
  cover : ∀ i x, i < p → xs[n - 1 - i]? = some x → x ∈ d
theorem KP.more {xs : List Tx} {n p : Nat} {d : List Tx} {wsf : Nat → List Nat} {gf : Nat → Bs} (h : KP xs n p d wsf gf) {x : Tx} (hx : x ∉ d) (_hl : d.length < p + 1) :
    (∀ s, s < d.length + 2 → Mks ((fun s => if s = d.length + 1 then [] else wsf s) s) ((fun s => if s = d.length + 1 then (fun _ => false : Bs) else gf s) s) p) ∧ (∀ i, (fun s => if s = d.length + 1 then (fun _ => false : Bs) else gf s) 0 i = false) ∧ (∀ s, s < d.length + 1 → ∀ i, (fun s => if s = d.length + 1 then (fun _ => false : Bs) else gf s) (s + 1) i = decide (i < p ∧ xs[n - 1 - i]? = (d ++ [x])[s]?)) ∧ (d ++ [x]).Nodup ∧ ∀ i y, i < p → xs[n - 1 - i]? = some y → y ∈ d ++ [x] := by
  refine ⟨fun s hs => ?_, fun i => ?_, fun s hs i => ?_, ?_, fun i y hi hy => by simp [h.cover i y hi hy]⟩
  · by_cases e : s = d.length + 1
    · simp only [if_pos e]
      exact ⟨List.Pairwise.nil, by simp, fun d hd => by cases hd⟩
    · simp only [if_neg e]; exact h.mks s (by omega)
  · simp only [if_neg (show ¬ 0 = d.length + 1 by omega)]; exact h.g0 i
  · by_cases e : s = d.length
    · subst e
      simp only [if_true]
      rw [List.getElem?_append_right (Nat.le_refl _), Nat.sub_self, List.getElem?_cons_zero]
      symm
      rw [decide_eq_false_iff_not]
      rintro ⟨h1, h2⟩
      exact hx (h.cover i x h1 h2)
    · simp only [if_neg (show ¬ s + 1 = d.length + 1 by omega)]
      rw [h.gs s (by omega) i, List.getElem?_append_left (by omega)]
  · rw [List.nodup_append]
    refine ⟨h.nodup, by simp, fun a ha b hb => ?_⟩
    rw [List.mem_singleton.1 hb]
    exact fun e => hx (e ▸ ha)
theorem KP.next {xs : List Tx} {n p : Nat} {d : List Tx} {wsf : Nat → List Nat} {gf : Nat → Bs} {s : Nat} {x : Tx} (m1 : ∀ t, t < d.length + 1 → Mks (wsf t) (gf t) p) (m2 : ∀ i, gf 0 i = false) (m3 : ∀ t, t < d.length → ∀ i, gf (t + 1) i = decide (i < p ∧ xs[n - 1 - i]? = d[t]?)) (m4 : d.Nodup) (m5 : d.length ≤ p + 1) (m6 : ∀ i y, i < p → xs[n - 1 - i]? = some y → y ∈ d) (hx : xs[n - 1 - p]? = some x) (hs : d[s]? = some x) :
    KP xs n (p + 1) d (fun t => if t = s + 1 then nextW (wsf (s + 1)) (p / 64) else wsf t) (fun t => if t = s + 1 then put1 (gf (s + 1)) p else gf t) := by
  have hsl := (List.getElem?_eq_some_iff.1 hs).1
  refine ⟨fun t ht => ?_, fun i => ?_, fun t ht i => ?_, m4, m5, fun i y hi hy => ?_⟩
  · by_cases e : t = s + 1
    · simp only [if_pos e]; exact (m1 (s + 1) (by omega)).next
    · simp only [if_neg e]
      have := m1 t ht
      exact ⟨this.up, fun x hx => by have := this.low x hx; omega, fun d hd => ⟨by have := (this.all d hd).1; omega, (this.all d hd).2⟩⟩
  · simp only [if_neg (show ¬ 0 = s + 1 by omega)]; exact m2 i
  · by_cases e : t = s
    · subst e
      simp only [if_true]
      unfold put1
      rw [m3 t ht i, Bool.eq_iff_iff]
      simp only [Bool.or_eq_true, decide_eq_true_eq, beq_iff_eq]
      constructor
      · rintro (⟨h1, h2⟩ | rfl)
        · exact ⟨by omega, h2⟩
        · exact ⟨by omega, hx.trans hs.symm⟩
      · rintro ⟨h1, h2⟩
        by_cases e : i = p
        · exact Or.inr e
        · exact Or.inl ⟨by omega, h2⟩
    · simp only [if_neg (show ¬ t + 1 = s + 1 by omega)]
      rw [m3 t ht i, Bool.eq_iff_iff]
      simp only [decide_eq_true_eq]
      constructor
      · rintro ⟨h1, h2⟩; exact ⟨by omega, h2⟩
      · rintro ⟨h1, h2⟩
        refine ⟨?_, h2⟩
        by_cases e2 : i = p
        · exfalso
          subst e2
          rw [hx] at h2
          obtain ⟨q1, e3⟩ := List.getElem?_eq_some_iff.1 hs
          obtain ⟨q2, e4⟩ := List.getElem?_eq_some_iff.1 h2.symm
          have := (List.pairwise_iff_getElem.1 m4)
          rcases Nat.lt_or_gt_of_ne e with h | h
          · exact this t s q2 q1 h (e4.trans e3.symm)
          · exact this s t q1 q2 h (e3.trans e4.symm)
        · omega
  · by_cases e : i = p
    · subst e
      rw [hx] at hy
      cases hy
      exact List.mem_of_getElem? hs
    · exact m6 i y (by omega) hy

end Go.Proofs.Ytmbalnjobcgpkaa
