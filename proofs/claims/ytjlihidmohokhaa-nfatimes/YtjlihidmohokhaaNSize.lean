/-
  Rows of lists of nodes that are yet to be counted: what is kept of them in memory, and what an append to them does; plain sums.
-/
import Derived.Test.YtjlihidmohokhaaNRight
import Derived.Deep.RegionHeld3
namespace Go.Proofs.Ytjlihidmohokhaa
open Go.RowKit Go.Proofs.Ytjlihidmohokhaa.Gl

theorem Try.infoList : (Try.prog.info? 72).map (fun i => (i.zero, i.size, i.bytes)) = some (some (.agg #[.slice none 0 0, .int .i64 0]), 2, 32) := by kernel_rfl

/-- a list that is yet to be counted, so many times -/
abbrev Ent := Value × List Nd × Nat
def cellsS : List Ent → List Value
  | [] => []
  | e :: l => e.1 :: .int .i64 e.2.2 :: cellsS l
def tot : List Ent → Nat
  | [] => 0
  | e :: l => e.2.2 * sizes e.2.1 + tot l
def cntS : List Ent → Nat
  | [] => 0
  | e :: l => cnts e.2.1 + cntS l
theorem cellsS_app (a b : List Ent) : cellsS (a ++ b) = cellsS a ++ cellsS b := by
  induction a with
  | nil => rfl
  | cons e l ih => simp [cellsS, ih]
theorem cellsS_len (a : List Ent) : (cellsS a).length = a.length * 2 := by
  induction a with
  | nil => rfl
  | cons e l ih => simp [cellsS, ih]; omega
theorem tot_app (a b : List Ent) : tot (a ++ b) = tot a + tot b := by
  induction a with
  | nil => simp [tot]
  | cons e l ih => simp [tot, ih]; omega
theorem cntS_app (a b : List Ent) : cntS (a ++ b) = cntS a + cntS b := by
  induction a with
  | nil => simp [cntS]
  | cons e l ih => simp [cntS, ih]; omega
theorem cellsS_last (a : List Ent) (e : Ent) : (cellsS (a ++ [e]))[a.length * 2]? = some e.1 ∧ (cellsS (a ++ [e]))[a.length * 2 + 1]? = some (.int .i64 e.2.2) := by
  rw [cellsS_app, List.getElem?_append_right (by rw [cellsS_len]; omega), List.getElem?_append_right (by rw [cellsS_len]; omega), cellsS_len]
  simp [cellsS]
theorem sizeN_is (k : Int) (f : Bs) (kids : List Nd) (lo hi : Int) : sizeN (.mk k f kids lo hi) = 1 + reps k lo hi * sizes kids := by rw [sizeN]
theorem sizes_cons (d : Nd) (l : List Nd) : sizes (d :: l) = sizeN d + sizes l := by rw [sizes]
theorem sizeN_pos (x : Nd) : 1 ≤ sizeN x := by
  obtain ⟨k, f, kids, lo, hi⟩ := x
  rw [sizeN]; omega
theorem sizes_pos {l : List Nd} (h : l ≠ []) : 1 ≤ sizes l := by
  cases l with
  | nil => exact absurd rfl h
  | cons d l => rw [sizes]; have := sizeN_pos d; omega
/-- what is to be counted still lies where it lay -/
def Ents (W0 : World) (st : List Ent) : Prop := ∀ e ∈ st, KidsAt W0 (fun _ => True) e.1 e.2.1 ∧ e.2.1 ≠ [] ∧ 1 ≤ e.2.2 ∧ e.2.2 ≤ 1152921504606846976
theorem cntS_len (W0 : World) (st : List Ent) (h : Ents W0 st) : st.length ≤ cntS st := by
  induction st with
  | nil => exact Nat.le_refl _
  | cons e l ih =>
    have h1 := ih (fun x hx => h x (by simp [hx]))
    have h2 := (h e (by simp)).2.1
    have h3 : 1 ≤ cnts e.2.1 := by
      cases hl : e.2.1 with
      | nil => exact absurd hl h2
      | cons d t =>
        obtain ⟨k, f, kids, lo, hi⟩ := d
        rw [cnts, cntN]; omega
    rw [cntS, List.length_cons]; omega
theorem Ents.app {W0 : World} {a b : List Ent} (ha : Ents W0 a) (hb : Ents W0 b) : Ents W0 (a ++ b) := by
  intro e he
  rcases List.mem_append.1 he with h | h
  · exact ha e h
  · exact hb e h
theorem Ents.left {W0 : World} {a b : List Ent} (h : Ents W0 (a ++ b)) : Ents W0 a := fun e he => h e (List.mem_append.2 (Or.inl he))
theorem Ents.last {W0 : World} {a : List Ent} {e : Ent} (h : Ents W0 (a ++ [e])) : KidsAt W0 (fun _ => True) e.1 e.2.1 ∧ e.2.1 ≠ [] ∧ 1 ≤ e.2.2 ∧ e.2.2 ≤ 1152921504606846976 := h e (by simp)
theorem Ents.one {W0 : World} {e : Ent} (h : KidsAt W0 (fun _ => True) e.1 e.2.1 ∧ e.2.1 ≠ [] ∧ 1 ≤ e.2.2 ∧ e.2.2 ≤ 1152921504606846976) : Ents W0 [e] := by
  intro x hx
  simp at hx
  subst hx
  exact h

/-- what is kept while one list is looked at -/
structure QK (W0 : World) (B : Nat) (v : Value) (st : List Ent) (nb : Nat) (sv : Value) (t : Nat) (X : World) : Prop where
  own : X.ownsRow B 72 2 v st.length (cellsS st)
  bel : Below B W0 X
  c0 : X.cell? ⟨nb, 0, none⟩ = some sv
  c1 : X.cell? ⟨nb, 1, none⟩ = some (.int .i64 t)
  nlt : nb < X.heap.size
  nne : some nb ≠ v.ownBlock
  low : B ≤ X.heap.size
theorem owns_later {w w' : World} {B n size : Nat} {v : Value} {cs : List Value} {e : TypeId} (h : w.ownsRow B e size v n cs) (hb : Below w.heap.size w w') : w'.ownsRow B e size v n cs := by
  refine ⟨h.1, ?_⟩
  rcases h.2 with h | ⟨g, cap, cur, hv, hB, hg, hc⟩
  · exact Or.inl h
  · exact Or.inr ⟨g, cap, cur, hv, hB, by rw [hb.block g (Array.getElem?_eq_some_iff.1 hg).1]; exact hg, hc⟩
/-- all but the last -/
theorem owns_cut {W : World} {B g n cap : Nat} {a : List Ent} {e : Ent} (h : W.ownsRow B 72 2 (.slice (some ⟨g, 0, none⟩) (n + 1) cap) (a ++ [e]).length (cellsS (a ++ [e]))) (hn : n = a.length) : W.ownsRow B 72 2 (.slice (some ⟨g, 0, none⟩) n cap) a.length (cellsS a) := by
  refine ⟨cellsS_len a, Or.inr ?_⟩
  rcases h.2 with ⟨h1, _⟩ | ⟨g', cap', cur, hv, hB, hg, hc, hm, hs, ht⟩
  · cases h1
  · simp only [Value.slice.injEq, Option.some.injEq, Addr.mk.injEq] at hv
    obtain ⟨⟨rfl, _, _⟩, _, rfl⟩ := hv
    refine ⟨g, cap, cur, by rw [hn], hB, hg, by rw [List.length_append] at hc; omega, hm, hs, ?_⟩
    rw [cellsS_app] at ht
    have h2 := congrArg (List.take (a.length * 2)) ht
    rw [List.take_take, Nat.min_eq_left (by rw [List.length_append]; omega)] at h2
    rw [h2, ← cellsS_len a]
    exact List.take_left
theorem QK.on {W0 X X' : World} {B : Nat} {v : Value} {st : List Ent} {nb : Nat} {sv : Value} {t : Nat} (h : QK W0 B v st nb sv t X) (hb : Below X.heap.size X X') : QK W0 B v st nb sv t X' :=
  ⟨owns_later h.own hb, h.bel.trans (hb.mono h.low), (hb.cell (p := ⟨nb, 0, none⟩) h.nlt).trans h.c0, (hb.cell (p := ⟨nb, 1, none⟩) h.nlt).trans h.c1, Nat.lt_of_lt_of_le h.nlt hb.size, h.nne, Nat.le_trans h.low hb.size⟩
theorem QK.alloc {W0 X : World} {B : Nat} {v : Value} {st : List Ent} {nb : Nat} {sv : Value} {t : Nat} (h : QK W0 B v st nb sv t X) (o : Obj) : QK W0 B v st nb sv t (X.alloc o) := h.on ((Below.refl _ X).alloc (Nat.le_refl _) o)
theorem QK.drew {W0 X : World} {B : Nat} {v : Value} {st : List Ent} {nb : Nat} {sv : Value} {t : Nat} (h : QK W0 B v st nb sv t X) : QK W0 B v st nb sv t X.drew := h.on (Below.refl _ X).drew
theorem QK.after {W0 X X' : World} {B : Nat} {v : Value} {st : List Ent} {nb : Nat} {sv : Value} {t : Nat} {g cap n : Nat} {e : Ent} (h : QK W0 B v st nb sv t X) (hg : X.grownBy X' v.ownBlock) (ho : X'.ownsRow B 72 2 (.slice (some ⟨g, 0, none⟩) n cap) (st.length + 1) (cellsS st ++ [e.1, .int .i64 e.2.2])) (hat : v.ownBlock = some g ∨ g = X.heap.size) :
    QK W0 B (.slice (some ⟨g, 0, none⟩) n cap) (st ++ [e]) nb sv t X' := by
  have hlt := h.own.lt
  refine ⟨?_, h.bel.grown hg h.low (fun k hk => (hlt k hk).1), (hg.cell_far ⟨nb, 0, none⟩ h.nlt h.nne).trans h.c0, (hg.cell_far ⟨nb, 1, none⟩ h.nlt h.nne).trans h.c1, Nat.lt_of_lt_of_le h.nlt hg.size, ?_, Nat.le_trans h.low hg.size⟩
  · rw [cellsS_app, List.length_append]; exact ho
  · intro e2
    simp [Value.ownBlock] at e2
    rcases hat with h1 | h1
    · rw [← e2] at h1; exact h.nne h1.symm
    · have := h.nlt; omega
theorem two_new (W : World) (a b : Value) (t : TypeId) (H : Nat) (hH : H = W.heap.size) : ∀ j u, [a, b][j]? = some u → (W.alloc (.cells #[a, b] t)).cell? ((⟨H, 0, none⟩ : Addr).add j) = some u := by
  subst hH
  exact World.news_of_block (w := W.alloc (.cells #[a, b] t)) (B := W.heap.size) (cs := #[a, b]) (t := t) (fr := (0, 0)) (by show (W.heap.push _)[W.heap.size]? = _; exact Array.getElem?_push_size)
theorem two_ones (a : Option Addr) (n c : Nat) (t : Int) : ∀ u ∈ [Value.slice a n c, Value.int .i64 t], u.oneCell' = true := by
  intro u hu
  simp at hu
  rcases hu with rfl | rfl <;> rfl

end Go.Proofs.Ytjlihidmohokhaa
