/-
  What lies in memory while a text is looked through; no conditions.
-/
import Derived.Test.YtjlihidmohokhaaNRange
namespace Go.Proofs.Ytjlihidmohokhaa
open Go.RowKit Go.Proofs.Ytjlihidmohokhaa.Gl

/-- what does not turn -/
structure LC where
  w : World
  s : Tx
  whole : Bool
  ss : List Sta
  first : Nat
  g : Nat
  c : Nat
  Q : Nat
  Sb : Nat
  b7 : Nat
  b9 : Nat
/-- the state of a search -/
structure LS (E : LC) (b10 at_ : Nat) (nowv : Value) (N : List Nat) (lv : Value) (L : List Nat) (H : Nat → Nat) (nv : Value) (X : List Nat) (W : World) : Prop where
  bel : Below E.w.heap.size E.w W
  wk : WK E.w.heap.size E.Q E.Sb E.g E.c E.ss E.first E.s.length lv L H W
  v4 : Boxed W (E.w.heap.size + 1) 9 (S E.s)
  v5 : Boxed W (E.w.heap.size + 1 + 1) 4 (.bool E.whole)
  v6 : Boxed W (E.w.heap.size + 1 + 1 + 1) 4 (.bool false)
  v7 : Boxed W E.b7 52 (.pointer (some ⟨E.Q, 0, none⟩))
  v9 : Boxed W E.b9 58 nv
  v10 : Boxed W b10 3 (.int .i64 at_)
  now : W.ownsRow E.w.heap.size 3 1 nowv N.length (ints N)
  next : W.ownsRow E.w.heap.size 3 1 nv X.length (ints X)
  q0 : E.w.heap.size ≤ E.Q
  s0 : E.w.heap.size ≤ E.Sb
  b70 : E.w.heap.size ≤ E.b7
  b90 : E.w.heap.size ≤ E.b9
  b100 : E.w.heap.size ≤ b10
  d1 : ∀ k, nowv.ownBlock = some k → nv.ownBlock ≠ some k
  d2 : some E.Sb ≠ nowv.ownBlock
  d3 : some E.Sb ≠ nv.ownBlock
  d4 : ∀ k, lv.ownBlock = some k → nowv.ownBlock ≠ some k
  d5 : ∀ k, lv.ownBlock = some k → nv.ownBlock ≠ some k
  d6 : some b10 ≠ nowv.ownBlock
  d7 : some b10 ≠ nv.ownBlock
  d8 : some b10 ≠ lv.ownBlock
  d9 : b10 ≠ E.Sb
/-- a block of cells -/
def IsC (W : World) (k : Nat) : Prop := ∃ cs t fr, W.heap[k]? = some (.cells cs t fr)
theorem IsC.box {W : World} {k : Nat} {t : TypeId} {v : Value} (h : Boxed W k t v) : IsC W k := ⟨_, _, _, h⟩
theorem IsC.row {W : World} {B : Nat} {e : TypeId} {size : Nat} {v : Value} {n : Nat} {xs : List Value} (h : W.ownsRow B e size v n xs) {k : Nat} (hk : v.ownBlock = some k) : IsC W k ∧ B ≤ k := by
  rcases h.2 with ⟨rfl, _⟩ | ⟨g, cap, cur, rfl, hg, hh, _⟩
  · cases hk
  · cases hk; exact ⟨⟨_, _, _, hh⟩, hg⟩
theorem IsC.lt {W : World} {k : Nat} (h : IsC W k) : k < W.heap.size := by
  obtain ⟨_, _, _, h⟩ := h
  exact (Array.getElem?_eq_some_iff.1 h).1
theorem box_keep {W W' : World} {k : Nat} {t : TypeId} {v : Value} (h : Boxed W k t v) (hb : W'.heap[k]? = W.heap[k]?) : Boxed W' k t v := hb.trans h
theorem types_ne {W : World} {k k' : Nat} {cs cs' : Array Value} {t t' : TypeId} {fr fr' : Nat × Nat} (h : W.heap[k]? = some (.cells cs t fr)) (h' : W.heap[k']? = some (.cells cs' t' fr')) (hne : t ≠ t') : k ≠ k' := fun e => by
  subst e
  rw [h] at h'
  cases h'
  exact hne rfl
theorem WK.isC {B Q Sb g c : Nat} {ss : List Sta} {first len : Nat} {lv : Value} {L : List Nat} {H : Nat → Nat} {W : World} (h : WK B Q Sb g c ss first len lv L H W) : IsC W Q ∧ IsC W Sb ∧ IsC W g := by
  obtain ⟨cur, h1, _⟩ := h.seen
  exact ⟨⟨_, _, _, h.wb⟩, ⟨_, _, _, h1⟩, (IsC.row h.st rfl).1⟩
theorem LS.keep {E : LC} {b10 at_ : Nat} {nowv : Value} {N : List Nat} {lv : Value} {L : List Nat} {H : Nat → Nat} {nv : Value} {X : List Nat} {W W' : World} (h : LS E b10 at_ nowv N lv L H nv X W) (hb : Below E.w.heap.size E.w W') (hk : ∀ k, E.w.heap.size ≤ k → IsC W k → W'.heap[k]? = W.heap[k]?) : LS E b10 at_ nowv N lv L H nv X W' := by
  have hc := h.wk.isC
  exact ⟨hb, h.wk.keep (hk _ h.q0 hc.1) (hk _ (IsC.row h.wk.st rfl).2 hc.2.2) (hk _ h.s0 hc.2.1) (fun k e => hk k (IsC.row h.wk.left e).2 (IsC.row h.wk.left e).1), box_keep h.v4 (hk _ (by omega) (IsC.box h.v4)), box_keep h.v5 (hk _ (by omega) (IsC.box h.v5)), box_keep h.v6 (hk _ (by omega) (IsC.box h.v6)), box_keep h.v7 (hk _ h.b70 (IsC.box h.v7)), box_keep h.v9 (hk _ h.b90 (IsC.box h.v9)), box_keep h.v10 (hk _ h.b100 (IsC.box h.v10)), owns_keep h.now (fun k e => hk k (IsC.row h.now e).2 (IsC.row h.now e).1), owns_keep h.next (fun k e => hk k (IsC.row h.next e).2 (IsC.row h.next e).1), h.q0, h.s0, h.b70, h.b90, h.b100, h.d1, h.d2, h.d3, h.d4, h.d5, h.d6, h.d7, h.d8, h.d9⟩
theorem LS.later {E : LC} {b10 at_ : Nat} {nowv : Value} {N : List Nat} {lv : Value} {L : List Nat} {H : Nat → Nat} {nv : Value} {X : List Nat} {W W' : World} (h : LS E b10 at_ nowv N lv L H nv X W) (hb : Below W.heap.size W W') : LS E b10 at_ nowv N lv L H nv X W' :=
  h.keep (h.bel.trans (hb.mono h.bel.size)) (fun k _ hc => hb.block k hc.lt)
theorem LS.putObj {E : LC} {b10 at_ : Nat} {nowv : Value} {N : List Nat} {lv : Value} {L : List Nat} {H : Nat → Nat} {nv : Value} {X : List Nat} {W : World} (h : LS E b10 at_ nowv N lv L H nv X W) {l : Nat} {o : Obj} (o' : Obj) (hl : E.w.heap.size ≤ l) (ho : W.heap[l]? = some o) (hc : o.isCells = false) : LS E b10 at_ nowv N lv L H nv X (W.putObj l o') := by
  refine h.keep (h.bel.trans ⟨rfl, rfl, rfl, by simp, fun k hk => World.putObj_heap_other (by omega)⟩) (fun k _ hC => World.putObj_heap_other (fun e => ?_))
  subst e
  obtain ⟨cs, t, fr, h1⟩ := hC
  rw [ho] at h1
  cases h1
  cases hc
/-- the walk goes on -/
theorem LS.walk {E : LC} {b10 at_ : Nat} {nowv : Value} {N : List Nat} {lv lv' : Value} {L L' : List Nat} {H H' : Nat → Nat} {nv : Value} {X : List Nat} {W W' : World} (h : LS E b10 at_ nowv N lv L H nv X W) (hw : WK E.w.heap.size E.Q E.Sb E.g E.c E.ss E.first E.s.length lv' L' H' W') (hg : Wg E.Q E.Sb lv lv' W W') : LS E b10 at_ nowv N lv' L' H' nv X W' := by
  obtain ⟨cur, hSb, _⟩ := h.wk.seen
  have hQ := h.wk.wb
  have box : ∀ {k : Nat} {t : TypeId} {v : Value}, Boxed W k t v → t ≠ 3 → t ≠ 60 → Boxed W' k t v := fun hb h3 h60 =>
    box_keep hb (hg.same _ hb.lt (types_ne hb hQ h60) (types_ne hb hSb h3) (hb.not_row h3 h.wk.left))
  have row : ∀ {v : Value} {l : List Nat}, W.ownsRow E.w.heap.size 3 1 v l.length (ints l) → some E.Sb ≠ v.ownBlock → (∀ k, lv.ownBlock = some k → v.ownBlock ≠ some k) → W'.ownsRow E.w.heap.size 3 1 v l.length (ints l) := fun {v} {l} hr h1 h2 => by
    refine owns_keep hr (fun k e => hg.same k (hr.lt k e).2 (fun e2 => ?_) (fun e2 => h1 (by rw [← e2]; exact e.symm)) (fun e2 => h2 k e2.symm e))
    obtain ⟨⟨cs, t, fr, hc⟩, _⟩ := IsC.row hr e
    rcases hr.2 with ⟨rfl, _⟩ | ⟨gg, cap, cur', rfl, _, hh, _⟩
    · cases e
    · cases e
      exact types_ne hh hQ (by decide) e2
  have fresh : ∀ {v : Value}, (∀ k, v.ownBlock = some k → k < W.heap.size) → (∀ k, lv.ownBlock = some k → v.ownBlock ≠ some k) → ∀ k, lv'.ownBlock = some k → v.ownBlock ≠ some k := fun hv h2 k e e2 => by
    rcases hg.own with e3 | ⟨gg, e3, hge⟩
    · rw [e3] at e; exact h2 k e e2
    · rw [e3] at e; cases e; have := hv _ e2; omega
  refine ⟨h.bel.trans ⟨hg.os, hg.tape, hg.output, hg.size, fun k hk => hg.same k (Nat.lt_of_lt_of_le hk h.bel.size) (by have := h.q0; omega) (by have := h.s0; omega) (fun e => by have := (IsC.row h.wk.left e.symm).2; omega)⟩, hw, box h.v4 (by decide) (by decide), box h.v5 (by decide) (by decide), box h.v6 (by decide) (by decide), box h.v7 (by decide) (by decide), box h.v9 (by decide) (by decide), ?_, row h.now h.d2 h.d4, row h.next h.d3 h.d5, h.q0, h.s0, h.b70, h.b90, h.b100, h.d1, h.d2, h.d3, fresh (fun k e => (h.now.lt k e).2) h.d4, fresh (fun k e => (h.next.lt k e).2) h.d5, h.d6, h.d7, ?_, h.d9⟩
  · exact box_keep h.v10 (hg.same _ h.v10.lt (types_ne h.v10 hQ (by decide)) h.d9 h.d8)
  · rcases hg.own with e3 | ⟨gg, e3, hge⟩
    · rw [e3]; exact h.d8
    · rw [e3]; intro e; cases e; have := h.v10.lt; omega
/-- one more state for the next place -/
theorem LS.push {E : LC} {b10 at_ : Nat} {nowv : Value} {N : List Nat} {lv : Value} {L : List Nat} {H : Nat → Nat} {nv : Value} {X : List Nat} {W w1 w2 : World} {p g9 c9 : Nat} (h : LS E b10 at_ nowv N lv L H nv X W) (hb : Below W.heap.size W w1) (hown : w2.ownsRow E.w.heap.size 3 1 (.slice (some ⟨g9, 0, none⟩) (X.length + 1) c9) (X.length + 1) (ints (X ++ [p]))) (hg : w1.grownBy w2 nv.ownBlock) (hl : some g9 = nv.ownBlock ∨ w1.heap.size ≤ g9) :
    LS E b10 at_ nowv N lv L H (.slice (some ⟨g9, 0, none⟩) (X.length + 1) c9) (X ++ [p]) (w2.setCell ⟨E.b9, 0, none⟩ (.slice (some ⟨g9, 0, none⟩) (X.length + 1) c9)) ∧ (∀ k, k < W.heap.size → k ≠ E.b9 → some k ≠ nv.ownBlock → (w2.setCell ⟨E.b9, 0, none⟩ (.slice (some ⟨g9, 0, none⟩) (X.length + 1) c9)).heap[k]? = W.heap[k]?) := by
  obtain ⟨cur, hSb, _⟩ := h.wk.seen
  have hs1 := hb.size
  have hs2 := hg.size
  have kp : ∀ k, k < W.heap.size → some k ≠ nv.ownBlock → w2.heap[k]? = W.heap[k]? := fun k hk h1 => by
    rw [hg.block k (by omega) h1, hb.block k hk]
  have kq : ∀ k, k < W.heap.size → k ≠ E.b9 → some k ≠ nv.ownBlock → (w2.setCell ⟨E.b9, 0, none⟩ (.slice (some ⟨g9, 0, none⟩) (X.length + 1) c9)).heap[k]? = W.heap[k]? := fun k hk h1 h2 => by
    rw [heap_setCell_other w2 ⟨E.b9, 0, none⟩ k _ h1]; exact kp k hk h2
  have n9 : some E.b9 ≠ nv.ownBlock := h.v9.not_row (by decide) h.next
  have fr : ∀ k, k < W.heap.size → some k ≠ nv.ownBlock → k ≠ g9 := fun k hk h1 e => by
    subst e
    rcases hl with hl | hl
    · exact h1 hl
    · omega
  have box : ∀ {k : Nat} {t : TypeId} {v : Value}, Boxed W k t v → t ≠ 3 → k ≠ E.b9 → Boxed (w2.setCell ⟨E.b9, 0, none⟩ (.slice (some ⟨g9, 0, none⟩) (X.length + 1) c9)) k t v := fun hb h3 h9 => box_keep hb (kq _ hb.lt h9 (hb.not_row h3 h.next))
  have row : ∀ {v : Value} {l : List Nat}, W.ownsRow E.w.heap.size 3 1 v l.length (ints l) → (∀ k, v.ownBlock = some k → nv.ownBlock ≠ some k) → (w2.setCell ⟨E.b9, 0, none⟩ (.slice (some ⟨g9, 0, none⟩) (X.length + 1) c9)).ownsRow E.w.heap.size 3 1 v l.length (ints l) := fun {v} {l} hr h2 => by
    refine owns_keep hr (fun k e => kq k (hr.lt k e).2 (fun e2 => ?_) (fun e2 => h2 k e e2.symm))
    subst e2
    exact h.v9.not_row (by decide) hr e.symm
  have b9g : E.b9 ≠ g9 := fr _ h.v9.lt n9
  refine ⟨⟨?_, ?_, box h.v4 (by decide) (types_ne h.v4 h.v9 (by decide)), box h.v5 (by decide) (types_ne h.v5 h.v9 (by decide)), box h.v6 (by decide) (types_ne h.v6 h.v9 (by decide)), box h.v7 (by decide) (types_ne h.v7 h.v9 (by decide)), ?_, ?_, row h.now h.d1, ?_, h.q0, h.s0, h.b70, h.b90, h.b100, ?_, h.d2, ?_, h.d4, ?_, h.d6, ?_, h.d8, h.d9⟩, kq⟩
  · refine h.bel.trans ⟨hg.os.trans hb.os, hg.tape.trans hb.tape, hg.output.trans hb.output, ?_, fun k hk => kq k (Nat.lt_of_lt_of_le hk h.bel.size) (by have := h.b90; omega) (fun e => by have := (IsC.row h.next e.symm).2; omega)⟩
    simp only [World.setCell, Array.size_modify]; omega
  · have hQ := h.wk.wb
    have c1 : some E.Q ≠ nv.ownBlock := fun e => by
      rcases h.next.2 with ⟨e2, _⟩ | ⟨gg, cap, cur', e2, _, hh, _⟩
      · rw [e2] at e; cases e
      · rw [e2] at e; cases e; exact types_ne hh hQ (by decide) rfl
    have c2 : some E.g ≠ nv.ownBlock := fun e => by
      rcases h.next.2 with ⟨e2, _⟩ | ⟨gg, cap, cur', e2, _, hh, _⟩
      · rw [e2] at e; cases e
      · rw [e2] at e
        cases e
        rcases h.wk.st.2 with ⟨e3, _⟩ | ⟨g3, cap3, cur3, e3, _, hh3, _⟩
        · cases e3
        · cases e3; exact types_ne hh hh3 (by decide) rfl
    have c3 : E.g ≠ E.b9 := fun e => by
      rcases h.wk.st.2 with ⟨e3, _⟩ | ⟨g3, cap3, cur3, e3, _, hh3, _⟩
      · cases e3
      · cases e3; exact types_ne hh3 h.v9 (by decide) e
    exact h.wk.keep (kq _ h.wk.wb.lt (types_ne hQ h.v9 (by decide)) c1) (kq _ (h.wk.st.lt _ rfl).2 c3 c2) (kq _ h.wk.seen.lt (types_ne hSb h.v9 (by decide)) h.d3) (fun k e => kq k (h.wk.left.lt k e).2 (fun e2 => by subst e2; exact h.v9.not_row (by decide) h.wk.left e.symm) (fun e2 => h.d5 k e e2.symm))
  · exact Boxed.set _ (box_keep h.v9 (kp _ h.v9.lt n9))
  · exact box_keep h.v10 (kq _ h.v10.lt (types_ne h.v10 h.v9 (by decide)) h.d7)
  · rw [List.length_append]
    exact owns_keep hown (fun k e => by cases e; exact heap_setCell_other w2 ⟨E.b9, 0, none⟩ g9 _ b9g.symm)
  · intro k e e2
    cases e2
    exact fr _ (h.now.lt _ e).2 (fun e3 => h.d1 _ e e3.symm) rfl
  · intro e; cases e; exact fr _ h.wk.seen.lt h.d3 rfl
  · intro k e e2
    cases e2
    exact fr _ (h.wk.left.lt _ e).2 (fun e3 => h.d5 _ e e3.symm) rfl
  · intro e; cases e; exact fr _ h.v10.lt h.d7 rfl

end Go.Proofs.Ytjlihidmohokhaa
