/-
  What lies in memory from one place of a text to the next one, and how a search is left; no conditions.
-/
import Derived.Test.YtjlihidmohokhaaNState
namespace Go.Proofs.Ytjlihidmohokhaa
open Go.RowKit Go.Proofs.Ytjlihidmohokhaa.Gl

theorem owns_none {W : World} {B : Nat} {ao : Option Addr} {n cp : Nat} {l : List Nat} (h : W.ownsRow B 3 1 (.slice ao n cp) l.length (ints l)) : W.ownsRow B 3 1 (.slice ao 0 cp) 0 (ints []) := by
  refine ⟨rfl, ?_⟩
  rcases h.2 with ⟨e, _⟩ | ⟨g, cap, cur, e, hg, hh, hn, hm, hs, _⟩
  · cases e; exact Or.inl ⟨rfl, rfl⟩
  · cases e; exact Or.inr ⟨g, cp, cur, rfl, hg, hh, Nat.zero_le _, hm, hs, by simp [ints]⟩
/-- the two rows change places -/
theorem LS.swap {E : LC} {b10 at_ : Nat} {ao : Option Addr} {n cp : Nat} {N : List Nat} {lv : Value} {L : List Nat} {H : Nat → Nat} {nv : Value} {X : List Nat} {W : World} (h : LS E b10 at_ (.slice ao n cp) N lv L H nv X W) :
    LS E b10 at_ nv X lv L H (.slice ao 0 cp) [] (W.setCell ⟨E.b9, 0, none⟩ (.slice ao 0 cp)) := by
  obtain ⟨cur, hSb, _⟩ := h.wk.seen
  have ho : (Value.slice ao 0 cp).ownBlock = (Value.slice ao n cp).ownBlock := by cases ao <;> rfl
  have kq : ∀ k, k ≠ E.b9 → (W.setCell ⟨E.b9, 0, none⟩ (.slice ao 0 cp)).heap[k]? = W.heap[k]? := fun k h1 => heap_setCell_other W ⟨E.b9, 0, none⟩ k _ h1
  have row : ∀ {v : Value} {l : List Nat}, W.ownsRow E.w.heap.size 3 1 v l.length (ints l) → (W.setCell ⟨E.b9, 0, none⟩ (.slice ao 0 cp)).ownsRow E.w.heap.size 3 1 v l.length (ints l) := fun {v} {l} hr =>
    owns_keep hr (fun k e => kq k (fun e2 => by subst e2; exact h.v9.not_row (by decide) hr e.symm))
  have c3 : E.g ≠ E.b9 := fun e => by
    rcases h.wk.st.2 with ⟨e3, _⟩ | ⟨g3, cap3, cur3, e3, _, hh3, _⟩
    · cases e3
    · cases e3; exact types_ne hh3 h.v9 (by decide) e
  refine ⟨bel_set h.bel h.b90, h.wk.keep (kq _ (types_ne h.wk.wb h.v9 (by decide))) (kq _ c3) (kq _ (types_ne hSb h.v9 (by decide))) (fun k e => kq k (fun e2 => by subst e2; exact h.v9.not_row (by decide) h.wk.left e.symm)), box_keep h.v4 (kq _ (types_ne h.v4 h.v9 (by decide))), box_keep h.v5 (kq _ (types_ne h.v5 h.v9 (by decide))), box_keep h.v6 (kq _ (types_ne h.v6 h.v9 (by decide))), box_keep h.v7 (kq _ (types_ne h.v7 h.v9 (by decide))), Boxed.set _ h.v9, box_keep h.v10 (kq _ (types_ne h.v10 h.v9 (by decide))), row h.next, ?_, h.q0, h.s0, h.b70, h.b90, h.b100, ?_, h.d3, by rw [ho]; exact h.d2, h.d5, by rw [ho]; exact h.d4, h.d7, by rw [ho]; exact h.d6, h.d8, h.d9⟩
  · exact owns_keep (owns_none h.now) (fun k e => kq k (fun e2 => by subst e2; exact h.v9.not_row (by decide) h.now (by rw [← ho]; exact e.symm)))
  · intro k e
    rw [ho]
    exact fun e2 => h.d1 k e2 e
/-- one more state for this place -/
theorem LS.nowpush {E : LC} {b10 at_ : Nat} {nowv : Value} {N : List Nat} {lv : Value} {L : List Nat} {H : Nat → Nat} {nv : Value} {X : List Nat} {W w1 w2 : World} {p g9 c9 : Nat} (h : LS E b10 at_ nowv N lv L H nv X W) (hb : Below W.heap.size W w1) (hown : w2.ownsRow E.w.heap.size 3 1 (.slice (some ⟨g9, 0, none⟩) (N.length + 1) c9) (N.length + 1) (ints (N ++ [p]))) (hg : w1.grownBy w2 nowv.ownBlock) (hl : some g9 = nowv.ownBlock ∨ w1.heap.size ≤ g9) :
    LS E b10 at_ (.slice (some ⟨g9, 0, none⟩) (N.length + 1) c9) (N ++ [p]) lv L H nv X w2 := by
  obtain ⟨cur, hSb, _⟩ := h.wk.seen
  have hs1 := hb.size
  have hs2 := hg.size
  have kq : ∀ k, k < W.heap.size → some k ≠ nowv.ownBlock → w2.heap[k]? = W.heap[k]? := fun k hk h1 => by
    rw [hg.block k (by omega) h1, hb.block k hk]
  have fr : ∀ k, k < W.heap.size → some k ≠ nowv.ownBlock → k ≠ g9 := fun k hk h1 e => by
    subst e
    rcases hl with hl | hl
    · exact h1 hl
    · omega
  have box : ∀ {k : Nat} {t : TypeId} {v : Value}, Boxed W k t v → t ≠ 3 → Boxed w2 k t v := fun hb h3 => box_keep hb (kq _ hb.lt (hb.not_row h3 h.now))
  have c1 : some E.Q ≠ nowv.ownBlock := fun e => by
    rcases h.now.2 with ⟨e2, _⟩ | ⟨gg, cap, cur', e2, _, hh, _⟩
    · rw [e2] at e; cases e
    · rw [e2] at e; cases e; exact types_ne hh h.wk.wb (by decide) rfl
  have c2 : some E.g ≠ nowv.ownBlock := fun e => by
    rcases h.now.2 with ⟨e2, _⟩ | ⟨gg, cap, cur', e2, _, hh, _⟩
    · rw [e2] at e; cases e
    · rw [e2] at e
      cases e
      rcases h.wk.st.2 with ⟨e3, _⟩ | ⟨g3, cap3, cur3, e3, _, hh3, _⟩
      · cases e3
      · cases e3; exact types_ne hh hh3 (by decide) rfl
  refine ⟨?_, h.wk.keep (kq _ h.wk.wb.lt c1) (kq _ (h.wk.st.lt _ rfl).2 c2) (kq _ h.wk.seen.lt h.d2) (fun k e => kq k (h.wk.left.lt k e).2 (fun e2 => h.d4 k e e2.symm)), box h.v4 (by decide), box h.v5 (by decide), box h.v6 (by decide), box h.v7 (by decide), box h.v9 (by decide), box_keep h.v10 (kq _ h.v10.lt h.d6), ?_, owns_keep h.next (fun k e => kq k (h.next.lt k e).2 (fun e2 => h.d1 k e2.symm e)), h.q0, h.s0, h.b70, h.b90, h.b100, ?_, ?_, h.d3, ?_, h.d5, ?_, h.d7, h.d8, h.d9⟩
  · exact h.bel.trans ⟨hg.os.trans hb.os, hg.tape.trans hb.tape, hg.output.trans hb.output, by omega, fun k hk => kq k (Nat.lt_of_lt_of_le hk h.bel.size) (fun e => by have := (IsC.row h.now e.symm).2; omega)⟩
  · rw [List.length_append]; exact hown
  · intro k e e2
    cases e
    exact fr _ (h.next.lt _ e2).2 (fun e3 => h.d1 _ e3.symm e2) rfl
  · intro e; cases e; exact fr _ h.wk.seen.lt h.d2 rfl
  · intro k e e2
    cases e2
    exact fr _ (h.wk.left.lt _ e).2 (fun e3 => h.d4 _ e e3.symm) rfl
  · intro e; cases e; exact fr _ h.v10.lt h.d6 rfl
/-- the place's own variable, made anew -/
theorem LS.newAt {E : LC} {b10 at_ : Nat} {nowv : Value} {N : List Nat} {lv : Value} {L : List Nat} {H : Nat → Nat} {nv : Value} {X : List Nat} {W : World} (h : LS E b10 at_ nowv N lv L H nv X W) (a : Nat) : LS E W.heap.size a nowv N lv L H nv X (W.alloc (.cells #[.int .i64 a] 3)) := by
  have h2 := h.later ((Below.refl _ W).alloc (Nat.le_refl _) (.cells #[.int .i64 a] 3))
  exact ⟨h2.bel, h2.wk, h2.v4, h2.v5, h2.v6, h2.v7, h2.v9, Boxed.new W 3 _, h2.now, h2.next, h.q0, h.s0, h.b70, h.b90, h.bel.size, h.d1, h.d2, h.d3, h.d4, h.d5, fun e => by have := (h.now.lt _ e.symm).2; omega, fun e => by have := (h.next.lt _ e.symm).2; omega, fun e => by have := (h.wk.left.lt _ e.symm).2; omega, fun e => by have := h.wk.seen.lt; omega⟩
/-- the place turns -/
theorem LS.setAt {E : LC} {b10 at_ : Nat} {nowv : Value} {N : List Nat} {lv : Value} {L : List Nat} {H : Nat → Nat} {nv : Value} {X : List Nat} {W : World} (h : LS E b10 at_ nowv N lv L H nv X W) (a : Nat) : LS E b10 a nowv N lv L H nv X (W.setCell ⟨b10, 0, none⟩ (.int .i64 a)) := by
  have kq : ∀ k, k ≠ b10 → (W.setCell ⟨b10, 0, none⟩ (.int .i64 a)).heap[k]? = W.heap[k]? := fun k h1 => heap_setCell_other W ⟨b10, 0, none⟩ k _ h1
  have row : ∀ {v : Value} {l : List Nat}, W.ownsRow E.w.heap.size 3 1 v l.length (ints l) → some b10 ≠ v.ownBlock → (W.setCell ⟨b10, 0, none⟩ (.int .i64 a)).ownsRow E.w.heap.size 3 1 v l.length (ints l) := fun {v} {l} hr hn =>
    owns_keep hr (fun k e => kq k (fun e2 => by subst e2; exact hn e.symm))
  have c3 : E.g ≠ b10 := fun e => by
    rcases h.wk.st.2 with ⟨e3, _⟩ | ⟨g3, cap3, cur3, e3, _, hh3, _⟩
    · cases e3
    · cases e3; exact types_ne hh3 h.v10 (by decide) e
  exact ⟨bel_set h.bel h.b100, h.wk.keep (kq _ (types_ne h.wk.wb h.v10 (by decide))) (kq _ c3) (kq _ (fun e => h.d9 e.symm)) (fun k e => kq k (fun e2 => by subst e2; exact h.d8 e.symm)), box_keep h.v4 (kq _ (types_ne h.v4 h.v10 (by decide))), box_keep h.v5 (kq _ (types_ne h.v5 h.v10 (by decide))), box_keep h.v6 (kq _ (types_ne h.v6 h.v10 (by decide))), box_keep h.v7 (kq _ (types_ne h.v7 h.v10 (by decide))), box_keep h.v9 (kq _ (types_ne h.v9 h.v10 (by decide))), Boxed.set _ h.v10, row h.now h.d6, row h.next h.d7, h.q0, h.s0, h.b70, h.b90, h.b100, h.d1, h.d2, h.d3, h.d4, h.d5, h.d6, h.d7, h.d8, h.d9⟩

/-! marks -/
def mark (D : Nat) : Deferred := { target := .collected D, args := #[] }
def Marks (B : Nat) (ds : List Nat) (W : World) : Prop := ds.Nodup ∧ ∀ D ∈ ds, B ≤ D ∧ W.heap[D]? = some (.deferred (some []))
theorem Marks.keeps {B : Nat} {ds : List Nat} {W W' : World} (h : Marks B ds W) (hk : KeepsOthers W W') : Marks B ds W' := ⟨h.1, fun D hD => ⟨(h.2 D hD).1, hk.same D _ (h.2 D hD).2 rfl⟩⟩
theorem Marks.cons {B D : Nat} {ds : List Nat} {w2 W : World} (hM : Marks B ds w2) (hB : B ≤ w2.heap.size) (hD : w2.heap.size ≤ D) (hK : W.heap[D]? = some (.deferred (some []))) (hold : ∀ k, k < w2.heap.size → (∃ o, w2.heap[k]? = some o ∧ o.isCells = false) → W.heap[k]? = w2.heap[k]?) : Marks B (D :: ds) W := by
  have hlt : ∀ D' ∈ ds, D' < w2.heap.size := fun D' hD' => (Array.getElem?_eq_some_iff.1 (hM.2 D' hD').2).1
  refine ⟨List.nodup_cons.2 ⟨fun h => by have := hlt D h; omega, hM.1⟩, fun D' hD' => ?_⟩
  rcases List.mem_cons.1 hD' with rfl | hD'
  · exact ⟨by omega, hK⟩
  · have h1 := hM.2 D' hD'
    exact ⟨h1.1, (hold D' (hlt D' hD') ⟨_, h1.2, rfl⟩).trans h1.2⟩
theorem results_bool1 {fn : Func} {t : Tmp} (h : fn.results = #[.cell t 4]) (tmps : Array Value) (w : World) (b : Nat) (r : Bool) (hp : tmps.getD t undef = .pointer (some ⟨b, 0, none⟩)) (hb : Boxed w b 4 (.bool r)) :
    (results fn tmps).run Try.prog w = .ok (.bool r) w := by
  have q0 := hb.cell
  rw [Array.getD_eq_getD_getElem?] at hp
  simp [results, h, hp, go_sem, q0]
theorem leaves_marks {fn : Func} {t : Tmp} {tmps : Array Value} {R : Ending → World → Prop} {w : World} {b : Nat} {r : Bool} (h : fn.results = #[.cell t 4]) (hp : tmps.getD t undef = .pointer (some ⟨b, 0, none⟩)) (hR : ∀ W, Below w.heap.size w W → R (.returned (.bool r)) W) : ∀ (ds : List Nat) (W : World), Marks w.heap.size ds W → Boxed W b 4 (.bool r) → Below w.heap.size w W → LeavesInM Fence.wide 5 Try.prog fn tmps R (ds.map mark) .returning W := by
  intro ds
  induction ds with
  | nil =>
    intro W _ hb hB
    exact ⟨_, results_bool1 h tmps W b r hp hb, hR W hB⟩
  | cons D ds ih =>
    intro W hM hb hB
    have hD := hM.2 D (by simp)
    refine ⟨by simp, Or.inl ⟨D, _, rfl, run_takeDeferred hD.2, ?_⟩⟩
    have hn := List.nodup_cons.1 hM.1
    refine ih _ ⟨hn.2, fun D' hD' => ⟨(hM.2 D' (by simp [hD'])).1, ?_⟩⟩ ?_ ?_
    · rw [World.putObj_heap_other (fun e => hn.1 (by rw [← e]; exact hD'))]
      exact (hM.2 D' (by simp [hD'])).2
    · refine box_keep hb (World.putObj_heap_other (fun e => ?_))
      subst e
      have h1 := hD.2
      unfold Boxed at hb
      rw [hb] at h1
      cases h1
    · exact hB.trans ⟨rfl, rfl, rfl, by simp, fun k hk => World.putObj_heap_other (by have := hD.1; omega)⟩

set_option maxHeartbeats 1000000 in
theorem reached_any (Q : Nat) (ao : Option Addr) (n cp at_ : Nat) (W : World) :
    Calls Try.prog 34 #[.pointer (some ⟨Q, 0, none⟩), .slice ao n cp, .int .i64 at_] W fun e w' => e = .returned (.func (.func 44) #[] #[.pointer (some ⟨W.heap.size, 0, none⟩), .pointer (some ⟨W.heap.size + 1, 0, none⟩), .pointer (some ⟨W.heap.size + 1 + 1, 0, none⟩)]) ∧ w' = ((W.alloc (.cells #[.pointer (some ⟨Q, 0, none⟩)] 52)).alloc (.cells #[.slice ao n cp] 58)).alloc (.cells #[.int .i64 at_] 3) := by
  go_enter Try.func34, Try.ntmps34
  go_wp2
  go_ret
  exact ⟨rfl, rfl⟩

end Go.Proofs.Ytjlihidmohokhaa
