
/-
  A range over a function: what the caller owes, and how it leaves; no conditions.
-/
import Derived.Test.YtcdjemheokmglabOBase
import Derived.RangeFuncNested
import Derived.RangeFuncBound
import Derived.RangeFuncCalls
import Derived.RangeFuncLeaves
import Derived.Shelf.Abstract
import Derived.Shelf.RegionOpen
import Derived.OwnWalkIn
import Derived.TacticsInMore
import Derived.LoopNIn
import Derived.LoopIn
import Derived.Deep.LoopGhost
namespace Go.Proofs.Ytcdjemheokmglab
open Go.RowKit Go.Proofs.Ytcdjemheokmglab.Ln Go.Proofs.Ytcdjemheokmglab.Ol

/-- how a round's body may be left -/
def bPost {α : Type} (St : α → Prop) (I : α → World → Prop) (Ix : Code → World → Prop) (W : World) : Exit → Act → World → Prop
  | .normal, _, W' => KeepsOthers W W' ∧ ∃ y, St y ∧ I y W'
  | .ret, _, W' => KeepsOthers W W' ∧ Ix .ret W'
  | .exit id, _, W' => KeepsOthers W W' ∧ Ix (.exit id) W'
  | .goto t, _, W' => KeepsOthers W W' ∧ Ix (.goto t) W'
  | .panic _, _, _ => False
  | .outgrown, _, _ => False

theorem roundIn_any {P : Program} {m m' l : Nat} {f : FuncId} {tmps : Array Value} {assign body : Code} {w : World} {R : Ending → World → Prop} (h : RoundIn Fence.wide m P l f tmps assign body w R) : RoundIn Fence.wide m' P l f tmps assign body w R :=
  ⟨h.1, fun c cs _ => h.2 c cs (room_wide _)⟩
theorem wp_range_cells {P : Program} {α : Type} {g : Operand} {ps : Array Tmp} {assign body : Code} {Q : Exit → Act → World → Prop} {a : Act} {w : World} {gf : Nat} {lb : Array Value}
    (hg : a.eval g = .func (.func gf) #[] lb) (eg : ∀ args w, (callFunc gf args).run P w = .ok (.enter gf args) w) (hps : ps.size = 1)
    (I : α → World → Prop) (Ix : Code → World → Prop) (Step : α → Value → α → Prop) (Done : α → Prop)
    (hal : ∀ x W o, I x W → I x (W.alloc o))
    (hI : ∀ x W l o o', I x W → w.heap.size ≤ l → W.heap[l]? = some o → o.isCells = false → I x (W.putObj l o'))
    (hIx : ∀ c W l o o', Ix c W → w.heap.size ≤ l → W.heap[l]? = some o → o.isCells = false → Ix c (W.putObj l o'))
    (x0 : α) (h0 : I x0 w)
    (hround : ∀ (l : Nat) (x y0 : α) (v : Value) (W : World), I x W → Step x v y0 → w.heap.size ≤ l → l < W.heap.size → (∃ o, W.heap[l]? = some o ∧ o.isCells = false) → assign.wpIn (Fence.wide.inRound l) 3 P (Exit.then (fun a₁ W1 => KeepsOthers W W1 ∧ ∀ o', body.wpIn (Fence.wide.inRound l) 3 P (bPost (Step x v) I Ix (W1.putObj l o')) a₁ (W1.putObj l o')) (fun _ _ _ => False)) { tmps := (ps.zip #[v]).foldl (fun t (p, v) => t.setIfInBounds p v) a.tmps, defers := [] } W)
    (hiter : ∀ (l : Nat) (J : α → World → Prop) (Jx : World → Prop) (W : World), (∀ x W, J x W → I x W) → (∀ x y W W', J x W → I y W' → KeepsOthers W W' → J y W') → J x0 W →
      (∀ x v y0 W, Step x v y0 → J x W → ∀ m, YieldAt Fence.wide m P l #[v] W fun e W' => (e = .returned (.bool true) ∧ ∃ y, Step x v y ∧ J y W') ∨ (e = .returned (.bool false) ∧ Jx W')) →
      Calls P gf (#[.func (.yield l) #[] #[]] ++ lb) W fun e W' => (∃ v, e = .returned v) ∧ ((∃ x, J x W' ∧ Done x) ∨ Jx W'))
    (hdone : ∀ (D : Nat) (x : α) (W : World), w.heap.size ≤ D → Done x → I x W → W.heap[D]? = some (.deferred (some [])) → (∀ k, k < w.heap.size → (∃ o, w.heap[k]? = some o ∧ o.isCells = false) → W.heap[k]? = w.heap[k]?) → Q .normal { a with defers := { target := .collected D, args := #[] } :: a.defers } W)
    (hstop : ∀ (D : Nat) (c : Code) (W : World), w.heap.size ≤ D → Ix c W → W.heap[D]? = some (.deferred (some [])) → (∀ k, k < w.heap.size → (∃ o, w.heap[k]? = some o ∧ o.isCells = false) → W.heap[k]? = w.heap[k]?) → c.wp P Q { a with defers := { target := .collected D, args := #[] } :: a.defers } W) :
    (Code.rangeFunc g ps assign body).wp P Q a w := by
  refine (wpIn_wide (n := 5)).1 (wpIn_rangeFunc ?_)
  intro fn hfn
  obtain ⟨rec, hrec⟩ : ∃ rec : LoopState → Option Code → Loop, rec = fun st pe => { state := st, pending := pe, fn, tmps := a.tmps, params := ps, assign, body, defers := w.heap.size } := ⟨_, rfl⟩
  obtain ⟨W1, hW1⟩ : ∃ W1, (w.alloc (.deferred (some []))).alloc (.loop (rec .ready none)) = W1 := ⟨_, rfl⟩
  have hL1 : W1.heap[w.heap.size + 1]? = some (.loop (rec .ready none)) := by
    rw [← hW1]; have := World.alloc_heap_new (w.alloc (.deferred (some []))) (.loop (rec .ready none)); rwa [World.size_alloc] at this
  have hK1 : W1.heap[w.heap.size]? = some (.deferred (some [])) := by
    rw [← hW1]; exact (Below.heap_alloc _ _ _ (by simp)).trans (World.alloc_heap_new w _)
  have hI1 : I x0 W1 := by rw [← hW1]; exact hal _ _ _ (hal _ _ _ h0)
  have hO1 : ∀ k, k < w.heap.size → (∃ o, w.heap[k]? = some o ∧ o.isCells = false) → W1.heap[k]? = w.heap[k]? := fun k hk _ => by
    rw [← hW1, Below.heap_alloc _ _ _ (by simp; omega), Below.heap_alloc _ _ _ hk]
  have hno : ∀ {A B : World}, KeepsOthers A B → (∀ k, k < w.heap.size → (∃ o, w.heap[k]? = some o ∧ o.isCells = false) → A.heap[k]? = w.heap[k]?) → ∀ k, k < w.heap.size → (∃ o, w.heap[k]? = some o ∧ o.isCells = false) → B.heap[k]? = w.heap[k]? := fun hk hA k hlt ho => by
    obtain ⟨o, h1, h2⟩ := ho
    have h3 := hA k hlt ⟨o, h1, h2⟩
    rw [h1] at h3 ⊢
    exact hk.same k o h3 h2
  have hpo : ∀ {A : World} {l : Nat} (o' : Obj), w.heap.size ≤ l → (∀ k, k < w.heap.size → (∃ o, w.heap[k]? = some o ∧ o.isCells = false) → A.heap[k]? = w.heap[k]?) → ∀ k, k < w.heap.size → (∃ o, w.heap[k]? = some o ∧ o.isCells = false) → (A.putObj l o').heap[k]? = w.heap[k]? := fun o' hl hA k hlt ho => by
    rw [World.putObj_heap_other (by omega)]; exact hA k hlt ho
  refine ⟨w.heap.size + 1, [{ target := .collected w.heap.size, args := #[] }], W1, { target := .fn (.func gf) lb, args := #[.func (.yield (w.heap.size + 1)) #[] #[]] }, W1, gf,
    #[.func (.yield (w.heap.size + 1)) #[] #[]] ++ lb, W1, ?_, ?_, ?_, ?_, fun _ => by omega, ?_⟩
  · rw [← hW1, hrec]; exact run_enterLoop_outer _ _ _ _ _
  · simp only [resolve, hg]
    simp [go_sem]
  · intro f' hf'; trivial
  · simp [invoke, go_sem, eg]
  · refine callsIn_wide.2 ((hiter (w.heap.size + 1)
      (fun x W => I x W ∧ W.heap[w.heap.size + 1]? = some (.loop (rec .ready none)) ∧ W.heap[w.heap.size]? = some (.deferred (some [])) ∧ ∀ k, k < w.heap.size → (∃ o, w.heap[k]? = some o ∧ o.isCells = false) → W.heap[k]? = w.heap[k]?)
      (fun W => ∃ c, Ix c W ∧ W.heap[w.heap.size + 1]? = some (.loop (rec .done (some c))) ∧ W.heap[w.heap.size]? = some (.deferred (some [])) ∧ ∀ k, k < w.heap.size → (∃ o, w.heap[k]? = some o ∧ o.isCells = false) → W.heap[k]? = w.heap[k]?)
      W1 (fun _ _ h => h.1) (fun x y A B hJ hy hk => ⟨hy, hk.same _ _ hJ.2.1 rfl, hk.same _ _ hJ.2.2.1 rfl, hno hk hJ.2.2.2⟩) ⟨hI1, hL1, hK1, hO1⟩ ?_).mono ?_)
    · -- one round
      rintro x v y0 W hstep ⟨hi, hl, hk, hoo⟩ m
      have hlt : w.heap.size + 1 < W.heap.size := (Array.getElem?_eq_some_iff.1 hl).1
      have hy := run_yield (P := P) (args := #[v]) hl (by rw [hrec]; exact hps.symm)
      rw [hrec] at hy
      refine ⟨fn, _, assign, body, hy, roundIn_any (m := 3) (roundIn_of_wpIn hfn (wpIn_mono (hround (w.heap.size + 1) x y0 v W hi hstep (by omega) hlt ⟨_, hl, rfl⟩) ?_))⟩
      rintro e a1 W1 hp1
      cases e with
      | normal =>
        obtain ⟨hk1, hb1⟩ := hp1
        have hl1 := hk1.same _ _ hl rfl
        have hlt1 : w.heap.size + 1 < W1.heap.size := (Array.getElem?_eq_some_iff.1 hl1).1
        have hkk1 := hk1.same _ _ hk rfl
        have hoo1 := hno hk1 hoo
        refine ⟨_, run_beginRound hl1 (by rw [hrec]), ?_⟩
        refine wpIn_mono (hb1 _) ?_
        have hl2 : (W1.putObj (w.heap.size + 1) (.loop { rec .ready none with state := .busy })).heap[w.heap.size + 1]? = some (.loop { rec .ready none with state := .busy }) := World.putObj_heap_same hlt1
        have hk2 : (W1.putObj (w.heap.size + 1) (.loop { rec .ready none with state := .busy })).heap[w.heap.size]? = some (.deferred (some [])) := (World.putObj_heap_other (by omega)).trans hkk1
        have ho2 := hpo (A := W1) (l := w.heap.size + 1) (.loop { rec .ready none with state := .busy }) (by omega) hoo1
        have fin : ∀ (jump : Option Code) (W3 : World), KeepsOthers (W1.putObj (w.heap.size + 1) (.loop { rec .ready none with state := .busy })) W3 →
            (Instr.endRound (w.heap.size + 1) jump).run P W3 = .ok (.bool jump.isNone) (W3.putObj (w.heap.size + 1) (.loop (rec (if jump.isNone then .ready else .done) jump))) ∧
            W3.heap[w.heap.size + 1]? = some (.loop { rec .ready none with state := .busy }) ∧
            (W3.putObj (w.heap.size + 1) (.loop (rec (if jump.isNone then .ready else .done) jump))).heap[w.heap.size + 1]? = some (.loop (rec (if jump.isNone then .ready else .done) jump)) ∧
            (W3.putObj (w.heap.size + 1) (.loop (rec (if jump.isNone then .ready else .done) jump))).heap[w.heap.size]? = some (.deferred (some [])) ∧
            (∀ k, k < w.heap.size → (∃ o, w.heap[k]? = some o ∧ o.isCells = false) → (W3.putObj (w.heap.size + 1) (.loop (rec (if jump.isNone then .ready else .done) jump))).heap[k]? = w.heap[k]?) := fun jump W3 hk3 => by
          have hl3 := hk3.same _ _ hl2 rfl
          have := run_endRound (P := P) jump hl3
          rw [hrec] at this ⊢
          exact ⟨this, by rw [hrec] at hl3; exact hl3, World.putObj_heap_same (Array.getElem?_eq_some_iff.1 hl3).1, (World.putObj_heap_other (by omega)).trans (hk3.same _ _ hk2 rfl), hpo _ (by omega) (hno hk3 ho2)⟩
        rintro e a3 W3 hp
        cases e with
        | normal =>
          obtain ⟨hk3, y, hs3, hi3⟩ := hp
          obtain ⟨hr, hl3, hl4, hk4, ho4⟩ := fin none W3 hk3
          exact ⟨_, _, hr, .inl ⟨rfl, y, hs3, hI _ _ _ _ _ hi3 (by omega) hl3 rfl, hl4, hk4, ho4⟩⟩
        | ret =>
          obtain ⟨hk3, hi3⟩ := hp
          obtain ⟨hr, hl3, hl4, hk4, ho4⟩ := fin (some .ret) W3 hk3
          exact ⟨_, _, hr, .inr ⟨rfl, .ret, hIx _ _ _ _ _ hi3 (by omega) hl3 rfl, hl4, hk4, ho4⟩⟩
        | exit id =>
          obtain ⟨hk3, hi3⟩ := hp
          obtain ⟨hr, hl3, hl4, hk4, ho4⟩ := fin (some (.exit id)) W3 hk3
          exact ⟨_, _, hr, .inr ⟨rfl, .exit id, hIx _ _ _ _ _ hi3 (by omega) hl3 rfl, hl4, hk4, ho4⟩⟩
        | goto t =>
          obtain ⟨hk3, hi3⟩ := hp
          obtain ⟨hr, hl3, hl4, hk4, ho4⟩ := fin (some (.goto t)) W3 hk3
          exact ⟨_, _, hr, .inr ⟨rfl, .goto t, hIx _ _ _ _ _ hi3 (by omega) hl3 rfl, hl4, hk4, ho4⟩⟩
        | panic ch => exact hp.elim
        | outgrown => exact hp.elim
      | _ => exact hp1.elim
    · -- behind the iterator
      rintro e W2 ⟨⟨v, rfl⟩, (⟨x, ⟨hi, hl, hk, hoo⟩, hd⟩ | ⟨c, hi, hl, hk, hoo⟩)⟩
      · exact ⟨none, _, by have := run_endLoop (P := P) hl (by rw [hrec]; simp); rw [hrec] at this; exact this, hdone _ x _ (Nat.le_refl _) hd (hI _ _ _ _ _ hi (by omega) hl rfl) ((World.putObj_heap_other (by omega)).trans hk) (hpo _ (by omega) hoo)⟩
      · exact ⟨some c, _, by have := run_endLoop (P := P) hl (by rw [hrec]; simp); rw [hrec] at this; exact this, wpIn_wide.2 (hstop _ c _ (Nat.le_refl _) (hIx _ _ _ _ _ hi (by omega) hl rfl) ((World.putObj_heap_other (by omega)).trans hk) (hpo _ (by omega) hoo))⟩

/-- how the whole may be left -/
def lookPost (fn : Func) (R : Ending → World → Prop) : Exit → Act → World → Prop
  | .normal, a, w | .ret, a, w => LeavesInM Fence.wide 5 Try.prog fn a.tmps R a.defers .returning w
  | _, _, _ => False
theorem lookPost_is {fn : Func} {R : Ending → World → Prop} (e : Exit) (a : Act) (w : World) (h : lookPost fn R e a w) : bodyPostM Fence.wide 5 Try.prog fn R e a w := by
  cases e with
  | normal => exact h
  | ret => exact h
  | _ => exact h.elim
theorem box_keep {W W' : World} {k : Nat} {t : TypeId} {v : Value} (h : Boxed W k t v) (hb : W'.heap[k]? = W.heap[k]?) : Boxed W' k t v := hb.trans h
theorem bel_alloc {a w : World} (h : Below a.heap.size a w) (o : Obj) : Below a.heap.size a (w.alloc o) := h.alloc h.size o
theorem bel_set {a w : World} (h : Below a.heap.size a w) {b i : Nat} {u : Value} (hb : a.heap.size ≤ b) : Below a.heap.size a (w.setCell ⟨b, i, none⟩ u) := h.setCell (p := ⟨b, i, none⟩) hb u
theorem bel_put {a w : World} (h : Below a.heap.size a w) {l : Nat} (o : Obj) (hl : a.heap.size ≤ l) : Below a.heap.size a (w.putObj l o) :=
  h.trans ⟨rfl, rfl, rfl, by simp, fun k hk => World.putObj_heap_other (by omega)⟩
theorem keeps_below {W W' : World} (h : Below W.heap.size W W') : KeepsOthers W W' := ⟨h.size, fun k _ hk _ => (h.block k (Array.getElem?_eq_some_iff.1 hk).1).trans hk⟩
theorem box_later {W W' : World} {k : Nat} {t : TypeId} {v : Value} (h : Boxed W k t v) (hb : Below W.heap.size W W') : Boxed W' k t v := box_keep h (hb.block k h.lt)
theorem results_bool1 {fn : Func} {t : Tmp} (h : fn.results = #[.cell t 4]) (tmps : Array Value) (w : World) (b : Nat) (r : Bool) (hp : tmps.getD t undef = .pointer (some ⟨b, 0, none⟩)) (hb : Boxed w b 4 (.bool r)) :
    (results fn tmps).run Try.prog w = .ok (.bool r) w := by
  have q0 := hb.cell
  rw [Array.getD_eq_getD_getElem?] at hp
  simp [results, h, hp, go_sem, q0]
theorem leaves_cell {fn : Func} {t : Tmp} {tmps : Array Value} {R : Ending → World → Prop} {w : World} {b : Nat} {r : Bool} (h : fn.results = #[.cell t 4]) (hp : tmps.getD t undef = .pointer (some ⟨b, 0, none⟩)) (hR : ∀ W, Below w.heap.size w W → R (.returned (.bool r)) W)
    (D : Nat) (W : World) (hD : w.heap.size ≤ D) (hK : W.heap[D]? = some (.deferred (some []))) (hb : Boxed W b 4 (.bool r)) (hB : Below w.heap.size w W) : LeavesInM Fence.wide 5 Try.prog fn tmps R [{ target := .collected D, args := #[] }] .returning W := by
  refine ⟨by simp, Or.inl ⟨D, _, rfl, run_takeDeferred hK, ?_⟩⟩
  refine ⟨_, results_bool1 h tmps _ b r hp ?_, hR _ (bel_put hB _ hD)⟩
  refine box_keep hb (World.putObj_heap_other (fun e => ?_))
  subst e
  unfold Boxed at hb
  rw [hb] at hK
  cases hK
theorem leaves_tmp {fn : Func} {t : Tmp} {tmps : Array Value} {R : Ending → World → Prop} {w : World} {r : Value} (h : fn.results = #[.tmp t]) (hp : tmps.getD t undef = r) (hR : ∀ W, Below w.heap.size w W → R (.returned r) W)
    (D : Nat) (W : World) (hD : w.heap.size ≤ D) (hK : W.heap[D]? = some (.deferred (some []))) (hB : Below w.heap.size w W) : LeavesInM Fence.wide 5 Try.prog fn tmps R [{ target := .collected D, args := #[] }] .returning W := by
  refine ⟨by simp, Or.inl ⟨D, _, rfl, run_takeDeferred hK, ?_⟩⟩
  exact ⟨_, results_tmp h _ _ _, by rw [hp]; exact hR _ (bel_put hB _ hD)⟩

end Go.Proofs.Ytcdjemheokmglab
