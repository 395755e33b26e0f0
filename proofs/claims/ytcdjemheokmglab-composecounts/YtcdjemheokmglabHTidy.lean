
/-
  Plain laws of steps without what turns nothing, and what the document's own Tidy and Idle answer at any steps that lie in memory; conditions: the list's and the texts' lengths.
-/
import Derived.Test.YtcdjemheokmglabHDiff
import Derived.Test.YtcdjemheokmglabCPThen
namespace Go.Proofs.Ytcdjemheokmglab
open Go.RowKit Go.Deep Go.Proofs.Ytcdjemheokmglab.Ln Go.Proofs.Ytcdjemheokmglab.Ol

/-- three rows of one's own: steps, and the lines of both sides -/
structure K3 (w : World) (O : List Oq) (A B : List Tx) (vo va vb : Value) (W : World) : Prop where
  bel : Below w.heap.size w W
  oo : W.ownsRow w.heap.size 30 3 vo O.length (cellsO O)
  oa : W.ownsRow w.heap.size 9 1 va A.length (A.map S)
  ob : W.ownsRow w.heap.size 9 1 vb B.length (B.map S)
  na : ∀ k, vo.ownBlock = some k → va.ownBlock ≠ some k
  nb : ∀ k, vo.ownBlock = some k → vb.ownBlock ≠ some k
  ab : ∀ k, va.ownBlock = some k → vb.ownBlock ≠ some k
theorem K3.later {w : World} {O : List Oq} {A B : List Tx} {vo va vb : Value} {W W' : World} (h : K3 w O A B vo va vb W) (hb : Below W.heap.size W W') : K3 w O A B vo va vb W' :=
  ⟨h.bel.trans (hb.mono h.bel.size), owns_later h.oo hb, owns_later h.oa hb, owns_later h.ob hb, h.na, h.nb, h.ab⟩
theorem K3.alloc {w : World} {O : List Oq} {A B : List Tx} {vo va vb : Value} {W : World} (h : K3 w O A B vo va vb W) (o : Obj) : K3 w O A B vo va vb (W.alloc o) := h.later ((Below.refl _ W).alloc (Nat.le_refl _) o)
theorem K3.drew {w : World} {O : List Oq} {A B : List Tx} {vo va vb : Value} {W : World} (h : K3 w O A B vo va vb W) : K3 w O A B vo va vb W.drew := h.later (Below.refl _ W).drew
theorem adds_bel3 {w W W' : World} {v v' : Value} (hB : w.heap.size ≤ W.heap.size) (h : Adds W W' v v') (hv : ∀ k, v.ownBlock = some k → w.heap.size ≤ k) : Below w.heap.size W W' :=
  ⟨h.1.os, h.1.tape, h.1.output, h.1.size, fun k hk => h.1.block k (by omega) (fun e => by have := hv k e.symm; omega)⟩
theorem kept3 {w W W' : World} {e : TypeId} {size n : Nat} {v u u' : Value} {cs : List Value} (h : W.ownsRow w.heap.size e size v n cs) (ha : Adds W W' u u') (hn : ∀ k, v.ownBlock = some k → u.ownBlock ≠ some k) : W'.ownsRow w.heap.size e size v n cs := by
  refine h.kept ha.1 ?_
  cases hc : v.ownBlock with
  | none => exact Or.inl rfl
  | some k => exact Or.inr (fun e => hn k hc e.symm)
/-- a row that is turned stands apart from another one -/
theorem apart3 {w W W' : World} {e : TypeId} {size n : Nat} {v u u' : Value} {cs : List Value} (h : W.ownsRow w.heap.size e size v n cs) (ha : Adds W W' u u') (hn : ∀ k, v.ownBlock = some k → u.ownBlock ≠ some k) : ∀ k, v.ownBlock = some k → u'.ownBlock ≠ some k := by
  intro k hk e
  rcases ha.2 with e2 | ⟨k2, e2, hk2⟩
  · exact hn k hk (e2 ▸ e)
  · rw [e2] at e; cases e
    have := (h.lt _ hk).2
    omega
theorem apart_symm {u v : Value} (h : ∀ k, u.ownBlock = some k → v.ownBlock ≠ some k) : ∀ k, v.ownBlock = some k → u.ownBlock ≠ some k := fun k h1 h2 => h k h2 h1
theorem K3.out {w : World} {O O' : List Oq} {A B : List Tx} {vo vo' va vb : Value} {W W' : World} (h : K3 w O A B vo va vb W) (ha : Adds W W' vo vo') (ho : W'.ownsRow w.heap.size 30 3 vo' O'.length (cellsO O')) : K3 w O' A B vo' va vb W' :=
  ⟨h.bel.trans (adds_bel3 h.bel.size ha (fun k e => (h.oo.lt k e).1)), ho, kept3 h.oa ha (apart_symm h.na), kept3 h.ob ha (apart_symm h.nb), apart_symm (apart3 h.oa ha (apart_symm h.na)), apart_symm (apart3 h.ob ha (apart_symm h.nb)), h.ab⟩
theorem K3.first {w : World} {O : List Oq} {A A' B : List Tx} {vo va va' vb : Value} {W W' : World} (h : K3 w O A B vo va vb W) (ha : Adds W W' va va') (ho : W'.ownsRow w.heap.size 9 1 va' A'.length (A'.map S)) : K3 w O A' B vo va' vb W' :=
  ⟨h.bel.trans (adds_bel3 h.bel.size ha (fun k e => (h.oa.lt k e).1)), kept3 h.oo ha h.na, ho, kept3 h.ob ha (apart_symm h.ab), apart3 h.oo ha h.na, h.nb, apart_symm (apart3 h.ob ha (apart_symm h.ab))⟩
theorem K3.second {w : World} {O : List Oq} {A B B' : List Tx} {vo va vb vb' : Value} {W W' : World} (h : K3 w O A B vo va vb W) (ha : Adds W W' vb vb') (ho : W'.ownsRow w.heap.size 9 1 vb' B'.length (B'.map S)) : K3 w O A B' vo va vb' W' :=
  ⟨h.bel.trans (adds_bel3 h.bel.size ha (fun k e => (h.ob.lt k e).1)), kept3 h.oo ha h.nb, kept3 h.oa ha h.ab, ho, h.na, apart3 h.oo ha h.nb, apart3 h.oa ha h.ab⟩
theorem K3.cut {w : World} {O : List Oq} {A B : List Tx} {vo va vb : Value} {W : World} (h : K3 w O A B vo va vb W) : K3 w O [] [] vo (.slice none 0 0) (.slice none 0 0) W :=
  ⟨h.bel, h.oo, ⟨rfl, Or.inl ⟨rfl, rfl⟩⟩, ⟨rfl, Or.inl ⟨rfl, rfl⟩⟩, (fun _ _ e => by cases e), (fun _ _ e => by cases e), (fun _ e => by cases e)⟩

end Go.Proofs.Ytcdjemheokmglab

namespace Go.Proofs.Ytcdjemheokmglab
namespace Ol
open Go.Proofs.Ytcdjemheokmglab.Ln

/-- so far: what is told, and the lines of both sides since the last Skip -/
def ts (s : List Oq × List Tx × List Tx) (x : Oq) : List Oq × List Tx × List Tx :=
  if x.1 = 1 then (s.1 ++ df s.2.1 s.2.2 ++ [x], [], []) else (s.1, if x.1 = 4 then s.2.1 else s.2.1 ++ [x.2.2], if x.1 = 3 then s.2.2 else s.2.2 ++ [x.2.2])
def tso (l : List Oq) : List Oq × List Tx × List Tx := l.foldl ts ([], [], [])
/-- each stretch between Skips by the longest common row -/
def td (l : List Oq) : List Oq := (tso l).1 ++ df (tso l).2.1 (tso l).2.2
/-- what is tidied -/
def tdy (l : List Oq) : List Oq := if right l = true then nrm (td l) else []
theorem tso_snoc (l : List Oq) (x : Oq) : tso (l ++ [x]) = ts (tso l) x := by simp [tso, List.foldl_append]
theorem tso_take {xs : List Oq} {k : Nat} {x : Oq} (h : xs[k]? = some x) : tso (xs.take (k + 1)) = ts (tso (xs.take k)) x := by
  rw [List.take_add_one, h]; exact tso_snoc _ _
theorem tso_len (l : List Oq) : (tso l).1.length + (tso l).2.1.length + (tso l).2.2.length ≤ 2 * l.length ∧ (tso l).2.1.length ≤ l.length ∧ (tso l).2.2.length ≤ l.length := by
  refine snoc_ind (P := fun l => (tso l).1.length + (tso l).2.1.length + (tso l).2.2.length ≤ 2 * l.length ∧ (tso l).2.1.length ≤ l.length ∧ (tso l).2.2.length ≤ l.length) ⟨by simp [tso], by simp [tso], by simp [tso]⟩ ?_ l
  rintro l x ⟨h1, h2, h3⟩
  rw [tso_snoc]
  have hd : (df (tso l).2.1 (tso l).2.2).length ≤ (tso l).2.1.length + (tso l).2.2.length := by have := (df_len (tso l).2.1 (tso l).2.2).1; omega
  unfold ts
  split
  · simp only [List.length_append, List.length_cons, List.length_nil]; omega
  · by_cases h4 : x.1 = 4
    · have h3n : ¬ x.1 = 3 := by omega
      simp only [h4, if_true, List.length_append, List.length_cons, List.length_nil]; simp; omega
    · by_cases h3n : x.1 = 3
      · simp only [h3n, if_true, List.length_append, List.length_cons, List.length_nil]; simp; omega
      · simp only [h4, h3n, if_false, List.length_append, List.length_cons, List.length_nil]; omega
theorem td_len (l : List Oq) : (td l).length ≤ 2 * l.length := by
  have h := (tso_len l).1
  have hd := (df_len (tso l).2.1 (tso l).2.2).1
  unfold td; rw [List.length_append]; omega
/-- the lines of a stretch are those of steps that stand alone -/
theorem tso_texts (l : List Oq) (Q : Tx → Prop) (h : ∀ x ∈ l, x.1 ≠ 1 → Q x.2.2) : (∀ t ∈ (tso l).2.1, Q t) ∧ ∀ t ∈ (tso l).2.2, Q t := by
  refine snoc_ind (P := fun l => (∀ x ∈ l, x.1 ≠ 1 → Q x.2.2) → (∀ t ∈ (tso l).2.1, Q t) ∧ ∀ t ∈ (tso l).2.2, Q t) (fun _ => ⟨by simp [tso], by simp [tso]⟩) ?_ l h
  intro l x ih h
  obtain ⟨h1, h2⟩ := ih (fun y hy => h y (by simp [hy]))
  rw [tso_snoc]
  unfold ts
  split
  · exact ⟨by simp, by simp⟩
  · rename_i hx
    have hq := h x (by simp) hx
    refine ⟨?_, ?_⟩
    · simp only
      split
      · exact h1
      · intro t ht; rcases List.mem_append.1 ht with ht | ht
        · exact h1 t ht
        · simp at ht; subst ht; exact hq
    · simp only
      split
      · exact h2
      · intro t ht; rcases List.mem_append.1 ht with ht | ht
        · exact h2 t ht
        · simp at ht; subst ht; exact hq
theorem df_of {a b : List Tx} {Q : Tx → Prop} (h1 : ∀ t ∈ a, Q t) (h2 : ∀ t ∈ b, Q t) : ∀ x ∈ df a b, (x.1 = 2 ∨ x.1 = 3 ∨ x.1 = 4) ∧ x.2.1 = 0 ∧ Q x.2.2 := by
  intro x hx
  obtain ⟨h, h0⟩ := df_kinds a b x hx
  rcases h with ⟨e, m, _⟩ | ⟨e, m⟩ | ⟨e, m⟩
  · exact ⟨Or.inl e, h0, h1 _ m⟩
  · exact ⟨Or.inr (Or.inl e), h0, h1 _ m⟩
  · exact ⟨Or.inr (Or.inr e), h0, h2 _ m⟩
/-- what holds of the steps of a list, and of any line of it that is known, holds of the tidied steps -/
theorem td_of (l : List Oq) (P : Oq → Prop) (Q : Tx → Prop) (hP : ∀ x ∈ l, x.1 = 1 → P x) (hQ : ∀ x ∈ l, x.1 ≠ 1 → Q x.2.2) (hT : ∀ x : Oq, (x.1 = 2 ∨ x.1 = 3 ∨ x.1 = 4) → x.2.1 = 0 → Q x.2.2 → P x) : ∀ x ∈ td l, P x := by
  have key : (∀ x ∈ (tso l).1, P x) := by
    refine snoc_ind (P := fun l => (∀ x ∈ l, x.1 = 1 → P x) → (∀ x ∈ l, x.1 ≠ 1 → Q x.2.2) → ∀ x ∈ (tso l).1, P x) (fun _ _ => by simp [tso]) ?_ l hP hQ
    intro l x ih h1 h2
    have ih' := ih (fun y hy => h1 y (by simp [hy])) (fun y hy => h2 y (by simp [hy]))
    obtain ⟨t1, t2⟩ := tso_texts l Q (fun y hy => h2 y (by simp [hy]))
    rw [tso_snoc]
    unfold ts
    split
    · rename_i hx
      intro y hy
      simp only [List.mem_append, List.mem_cons, List.not_mem_nil, or_false] at hy
      rcases hy with (hy | hy) | rfl
      · exact ih' y hy
      · obtain ⟨k1, k2, k3⟩ := df_of t1 t2 y hy
        exact hT y k1 k2 k3
      · exact h1 y (by simp) hx
    · exact ih'
  obtain ⟨t1, t2⟩ := tso_texts l Q hQ
  intro x hx
  unfold td at hx
  rcases List.mem_append.1 hx with hx | hx
  · exact key x hx
  · obtain ⟨k1, k2, k3⟩ := df_of t1 t2 x hx
    exact hT x k1 k2 k3
theorem td_al (l : List Oq) (h : ∀ x ∈ l, al0 x) : ∀ x ∈ td l, al0 x :=
  td_of l al0 (fun t => rt t = true) (fun x hx _ => h x hx) (fun x hx h1 => by
    rcases h x hx with ⟨e, _⟩ | ⟨_, _, e⟩
    · exact absurd e h1
    · exact e) (fun x h1 h2 h3 => Or.inr ⟨h1, h2, h3⟩)
theorem tot_df (a b : List Tx) : tot 3 (df a b) = a.length ∧ tot 4 (df a b) = b.length := by
  refine df_ind (P := fun a b => tot 3 (df a b) = a.length ∧ tot 4 (df a b) = b.length) ?_ ?_ ?_ a b
  · intro b
    induction b with
    | nil => exact ⟨rfl, rfl⟩
    | cons y b ih => rw [df_nil] at ih ⊢; simp only [List.map_cons, tot, ih.1, ih.2, ln]; simp; omega
  · rintro x a ⟨h1, h2⟩
    rw [df_nilr]; simp only [tot, h1, h2, ln]; simp; omega
  · rintro x y a b ⟨i1, i2⟩ ⟨j1, j2⟩ ⟨k1, k2⟩
    rw [df_cons]
    split
    · simp only [tot, k1, k2, ln]; simp; omega
    · split
      · simp only [tot, i1, i2, ln]; simp; omega
      · simp only [tot, j1, j2, ln]; simp; omega
/-- both sides have as many lines -/
theorem td_tot (l : List Oq) (h : ∀ x ∈ l, al0 x) : tot 3 (td l) = tot 3 l ∧ tot 4 (td l) = tot 4 l := by
  have key : tot 3 (tso l).1 + (tso l).2.1.length = tot 3 l ∧ tot 4 (tso l).1 + (tso l).2.2.length = tot 4 l := by
    refine snoc_ind (P := fun l => (∀ x ∈ l, al0 x) → tot 3 (tso l).1 + (tso l).2.1.length = tot 3 l ∧ tot 4 (tso l).1 + (tso l).2.2.length = tot 4 l) (fun _ => ⟨rfl, rfl⟩) ?_ l h
    intro l x ih h
    obtain ⟨h1, h2⟩ := ih (fun y hy => h y (by simp [hy]))
    have hx := h x (by simp)
    rw [tso_snoc, tot_snoc, tot_snoc]
    unfold ts
    split
    · simp only [tot_app, tot_one, (tot_df _ _).1, (tot_df _ _).2, List.length_nil]; omega
    · rename_i hn
      rcases hx with ⟨e, _⟩ | ⟨e, _⟩
      · exact absurd e hn
      · rcases e with e | e | e
        · simp [e, ln]; omega
        · simp [e, ln]; omega
        · simp [e, ln]; omega
  unfold td
  rw [tot_app, tot_app, (tot_df _ _).1, (tot_df _ _).2]
  exact key
end Ol
open Go.RowKit Go.Deep Go.Proofs.Ytcdjemheokmglab.Ln Go.Proofs.Ytcdjemheokmglab.Ol

theorem td_fit {l : List Oq} (h : Fit l) : Fit (td l) :=
  td_of l (fun x => x.2.2.length ≤ 140737488355328) (fun t => t.length ≤ 140737488355328) (fun x hx _ => h x hx) (fun x hx _ => h x hx) (fun _ _ _ h => h)
/-- the frame, as far as it matters -/
structure FrY (a : Act) (s0 s3 s4 s5 s6 : Value) : Prop where
  size : a.tmps.size = 74
  e0 : a.tmps.getD 0 undef = s0
  e3 : a.tmps.getD 3 undef = s3
  e4 : a.tmps.getD 4 undef = s4
  e5 : a.tmps.getD 5 undef = s5
  e6 : a.tmps.getD 6 undef = s6
  marks : a.defers = []
theorem FrY_slots (tmps : Array Value) (h : tmps.size = 74) : tmps = #[tmps.getD 0 undef, tmps.getD 1 undef, tmps.getD 2 undef, tmps.getD 3 undef, tmps.getD 4 undef, tmps.getD 5 undef, tmps.getD 6 undef, tmps.getD 7 undef, tmps.getD 8 undef, tmps.getD 9 undef, tmps.getD 10 undef, tmps.getD 11 undef, tmps.getD 12 undef, tmps.getD 13 undef, tmps.getD 14 undef, tmps.getD 15 undef, tmps.getD 16 undef, tmps.getD 17 undef, tmps.getD 18 undef, tmps.getD 19 undef, tmps.getD 20 undef, tmps.getD 21 undef, tmps.getD 22 undef, tmps.getD 23 undef, tmps.getD 24 undef, tmps.getD 25 undef, tmps.getD 26 undef, tmps.getD 27 undef, tmps.getD 28 undef, tmps.getD 29 undef, tmps.getD 30 undef, tmps.getD 31 undef, tmps.getD 32 undef, tmps.getD 33 undef, tmps.getD 34 undef, tmps.getD 35 undef, tmps.getD 36 undef, tmps.getD 37 undef, tmps.getD 38 undef, tmps.getD 39 undef, tmps.getD 40 undef, tmps.getD 41 undef, tmps.getD 42 undef, tmps.getD 43 undef, tmps.getD 44 undef, tmps.getD 45 undef, tmps.getD 46 undef, tmps.getD 47 undef, tmps.getD 48 undef, tmps.getD 49 undef, tmps.getD 50 undef, tmps.getD 51 undef, tmps.getD 52 undef, tmps.getD 53 undef, tmps.getD 54 undef, tmps.getD 55 undef, tmps.getD 56 undef, tmps.getD 57 undef, tmps.getD 58 undef, tmps.getD 59 undef, tmps.getD 60 undef, tmps.getD 61 undef, tmps.getD 62 undef, tmps.getD 63 undef, tmps.getD 64 undef, tmps.getD 65 undef, tmps.getD 66 undef, tmps.getD 67 undef, tmps.getD 68 undef, tmps.getD 69 undef, tmps.getD 70 undef, tmps.getD 71 undef, tmps.getD 72 undef, tmps.getD 73 undef] := by
  have h1 : tmps.toList = (List.range 74).map (fun i => tmps.getD i undef) := by
    apply List.ext_getElem
    · simp [h]
    · intro i h2 h3
      simp at h2
      simp [h2]
  calc tmps = ⟨tmps.toList⟩ := rfl
    _ = ⟨(List.range 74).map (fun i => tmps.getD i undef)⟩ := by rw [h1]
    _ = _ := rfl
theorem FrY.frame {a : Act} {s0 s3 s4 s5 s6 : Value} (h : FrY a s0 s3 s4 s5 s6) : ∃ f : Nat → Value, (∀ i, a.tmps.getD i undef = f i) ∧ a = { tmps := #[s0, f 1, f 2, s3, s4, s5, s6, f 7, f 8, f 9, f 10, f 11, f 12, f 13, f 14, f 15, f 16, f 17, f 18, f 19, f 20, f 21, f 22, f 23, f 24, f 25, f 26, f 27, f 28, f 29, f 30, f 31, f 32, f 33, f 34, f 35, f 36, f 37, f 38, f 39, f 40, f 41, f 42, f 43, f 44, f 45, f 46, f 47, f 48, f 49, f 50, f 51, f 52, f 53, f 54, f 55, f 56, f 57, f 58, f 59, f 60, f 61, f 62, f 63, f 64, f 65, f 66, f 67, f 68, f 69, f 70, f 71, f 72, f 73], defers := [] } := by
  refine ⟨fun i => a.tmps.getD i undef, fun _ => rfl, ?_⟩
  obtain ⟨tmps, defers⟩ := a
  have h1 := FrY_slots tmps h.size
  rw [h.e0, h.e3, h.e4, h.e5, h.e6] at h1
  have h2 := h.marks
  simp only at h2
  rw [h2]
  exact congrArg (fun t => Act.mk t []) h1

/-- where the tidying stands -/
def YSt (w : World) (xs : List Oq) (k : Nat) (vo va vb : Value) (W : World) : Prop :=
  (k ≤ xs.length ∧ K3 w (tso (xs.take k)).1 (tso (xs.take k)).2.1 (tso (xs.take k)).2.2 vo va vb W) ∨ (k = xs.length + 1 ∧ K3 w (td xs) [] [] vo va vb W)

theorem tdy_len {xs : List Oq} : (tdy xs).length ≤ 8589934592 := by
  unfold tdy
  split
  · rename_i hr
    have h0 := right_len hr
    have h1 := td_len xs
    have h2 := nfo_len (td xs)
    unfold nrm; rw [List.length_append]; omega
  · simp
theorem tdy_fit {xs : List Oq} (h : Fit xs) : Fit (tdy xs) := by
  unfold tdy
  split
  · exact nrm_fit (td_fit h)
  · intro x hx; cases hx

end Go.Proofs.Ytcdjemheokmglab
