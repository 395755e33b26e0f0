/-
  A range over a function whose iterator keeps what it knows in cells: what the caller owes; no conditions.
-/
import Derived.Test.YtjlihidmohokhaaNIter
namespace Go.Proofs.Ytjlihidmohokhaa
open Go.RowKit Go.Proofs.Ytjlihidmohokhaa.Gl

/-- how a round's body may be left -/
def bPost {α : Type} (St : α → Prop) (I : α → World → Prop) (Ix : Code → World → Prop) (W : World) : Exit → Act → World → Prop
  | .normal, _, W' => KeepsOthers W W' ∧ ∃ y, St y ∧ I y W'
  | .ret, _, W' => KeepsOthers W W' ∧ Ix .ret W'
  | .exit id, _, W' => KeepsOthers W W' ∧ Ix (.exit id) W'
  | .goto t, _, W' => KeepsOthers W W' ∧ Ix (.goto t) W'
  | .panic _, _, _ => False
  | .outgrown, _, _ => False

theorem roundIn_any {P : Program} {m m' l : Nat} {f : FuncId} {tmps : Array Value} {assign body : Code} {w : World} {R : Ending → World → Prop} (h : RoundIn Fence.wide m P l f tmps assign body w R) : RoundIn Fence.wide m' P l f tmps assign body w R :=
  ⟨h.1, fun c cs _ => h.2 c cs (room_wide _)⟩
theorem wp_range_cells {P : Program} {α : Type} {g : Operand} {ps : Array Tmp} {assign body : Code} {Q : Exit → Act → World → Prop} {a : Act} {w : World} {gf : Nat} {lb : Array Value}
    (hg : a.eval g = .func (.func gf) #[] lb) (eg : ∀ args w, (callFunc gf args).run P w = .ok (.enter gf args) w) (hps : ps.size = 1)
    (I : α → World → Prop) (Ix : Code → World → Prop) (Step : α → Value → α → Prop) (Done : α → Prop)
    (hal : ∀ x W o, I x W → I x (W.alloc o))
    (hI : ∀ x W l o o', I x W → w.heap.size ≤ l → W.heap[l]? = some o → o.isCells = false → I x (W.putObj l o'))
    (hIx : ∀ c W l o o', Ix c W → w.heap.size ≤ l → W.heap[l]? = some o → o.isCells = false → Ix c (W.putObj l o'))
    (x0 : α) (h0 : I x0 w)
    (hround : ∀ (l : Nat) (x y0 : α) (v : Value) (W W2 : World), I x W → I x W2 → Step x v y0 → assign.wpIn (Fence.wide.inRound l) 3 P (Exit.then (fun a₁ W1 => W1 = W ∧ body.wpIn (Fence.wide.inRound l) 3 P (bPost (Step x v) I Ix W2) a₁ W2) (fun _ _ _ => False)) { tmps := (ps.zip #[v]).foldl (fun t (p, v) => t.setIfInBounds p v) a.tmps, defers := [] } W)
    (hiter : ∀ (l : Nat) (J : α → World → Prop) (Jx : World → Prop) (W : World), (∀ x W, J x W → I x W) → (∀ x y W W', J x W → I y W' → KeepsOthers W W' → J y W') → J x0 W →
      (∀ x v y0 W, Step x v y0 → J x W → ∀ m, YieldAt Fence.wide m P l #[v] W fun e W' => (e = .returned (.bool true) ∧ ∃ y, Step x v y ∧ J y W') ∨ (e = .returned (.bool false) ∧ Jx W')) →
      Calls P gf (#[.func (.yield l) #[] #[]] ++ lb) W fun e W' => (∃ v, e = .returned v) ∧ ((∃ x, J x W' ∧ Done x) ∨ Jx W'))
    (hdone : ∀ (D : Nat) (x : α) (W : World), w.heap.size ≤ D → Done x → I x W → W.heap[D]? = some (.deferred (some [])) → (∀ k, k < w.heap.size → (∃ o, w.heap[k]? = some o ∧ o.isCells = false) → W.heap[k]? = w.heap[k]?) → Q .normal { a with defers := { target := .collected D, args := #[] } :: a.defers } W)
    (hstop : ∀ (D : Nat) (c : Code) (W : World), w.heap.size ≤ D → Ix c W → W.heap[D]? = some (.deferred (some [])) → (∀ k, k < w.heap.size → (∃ o, w.heap[k]? = some o ∧ o.isCells = false) → W.heap[k]? = w.heap[k]?) → c.wp P Q { a with defers := { target := .collected D, args := #[] } :: a.defers } W) :
    (Code.rangeFunc g ps assign body).wp P Q a w := by
  refine (wpIn_wide (n := 5)).1 (wpIn_rangeFunc ?_)
  intro fn hfn
  obtain ⟨rec, hrec⟩ : ∃ rec : LoopState → Option Code → Loop, rec = fun st pe => { state := st, pending := pe, fn, tmps := a.tmps, params := ps, assign, body, defers := w.heap.size } := ⟨_, rfl⟩
  obtain ⟨W1, hW1⟩ : ∃ W1, (w.alloc (.deferred (some []))).alloc (.loop (rec .ready none)) = W1 := ⟨_, rfl⟩
  have hL1 : W1.heap[w.heap.size + 1]? = some (.loop (rec .ready none)) := by
    rw [← hW1]; have := World.alloc_heap_new (w.alloc (.deferred (some []))) (.loop (rec .ready none)); rwa [World.size_alloc] at this
  have hK1 : W1.heap[w.heap.size]? = some (.deferred (some [])) := by
    rw [← hW1]; exact (Below.heap_alloc _ _ _ (by simp)).trans (World.alloc_heap_new w _)
  have hI1 : I x0 W1 := by rw [← hW1]; exact hal _ _ _ (hal _ _ _ h0)
  have hO1 : ∀ k, k < w.heap.size → (∃ o, w.heap[k]? = some o ∧ o.isCells = false) → W1.heap[k]? = w.heap[k]? := fun k hk _ => by
    rw [← hW1, Below.heap_alloc _ _ _ (by simp; omega), Below.heap_alloc _ _ _ hk]
  have hno : ∀ {A B : World}, KeepsOthers A B → (∀ k, k < w.heap.size → (∃ o, w.heap[k]? = some o ∧ o.isCells = false) → A.heap[k]? = w.heap[k]?) → ∀ k, k < w.heap.size → (∃ o, w.heap[k]? = some o ∧ o.isCells = false) → B.heap[k]? = w.heap[k]? := fun hk hA k hlt ho => by
    obtain ⟨o, h1, h2⟩ := ho
    have h3 := hA k hlt ⟨o, h1, h2⟩
    rw [h1] at h3 ⊢
    exact hk.same k o h3 h2
  have hpo : ∀ {A : World} {l : Nat} (o' : Obj), w.heap.size ≤ l → (∀ k, k < w.heap.size → (∃ o, w.heap[k]? = some o ∧ o.isCells = false) → A.heap[k]? = w.heap[k]?) → ∀ k, k < w.heap.size → (∃ o, w.heap[k]? = some o ∧ o.isCells = false) → (A.putObj l o').heap[k]? = w.heap[k]? := fun o' hl hA k hlt ho => by
    rw [World.putObj_heap_other (by omega)]; exact hA k hlt ho
  refine ⟨w.heap.size + 1, [{ target := .collected w.heap.size, args := #[] }], W1, { target := .fn (.func gf) lb, args := #[.func (.yield (w.heap.size + 1)) #[] #[]] }, W1, gf,
    #[.func (.yield (w.heap.size + 1)) #[] #[]] ++ lb, W1, ?_, ?_, ?_, ?_, fun _ => by omega, ?_⟩
  · rw [← hW1, hrec]; exact run_enterLoop_outer _ _ _ _ _
  · simp only [resolve, hg]
    simp [go_sem]
  · intro f' hf'; trivial
  · simp [invoke, go_sem, eg]
  · refine callsIn_wide.2 ((hiter (w.heap.size + 1)
      (fun x W => I x W ∧ W.heap[w.heap.size + 1]? = some (.loop (rec .ready none)) ∧ W.heap[w.heap.size]? = some (.deferred (some [])) ∧ ∀ k, k < w.heap.size → (∃ o, w.heap[k]? = some o ∧ o.isCells = false) → W.heap[k]? = w.heap[k]?)
      (fun W => ∃ c, Ix c W ∧ W.heap[w.heap.size + 1]? = some (.loop (rec .done (some c))) ∧ W.heap[w.heap.size]? = some (.deferred (some [])) ∧ ∀ k, k < w.heap.size → (∃ o, w.heap[k]? = some o ∧ o.isCells = false) → W.heap[k]? = w.heap[k]?)
      W1 (fun _ _ h => h.1) (fun x y A B hJ hy hk => ⟨hy, hk.same _ _ hJ.2.1 rfl, hk.same _ _ hJ.2.2.1 rfl, hno hk hJ.2.2.2⟩) ⟨hI1, hL1, hK1, hO1⟩ ?_).mono ?_)
    · -- one round
      rintro x v y0 W hstep ⟨hi, hl, hk, hoo⟩ m
      have hlt : w.heap.size + 1 < W.heap.size := (Array.getElem?_eq_some_iff.1 hl).1
      have hy := run_yield (P := P) (args := #[v]) hl (by rw [hrec]; exact hps.symm)
      rw [hrec] at hy
      refine ⟨fn, _, assign, body, hy, roundIn_any (m := 3) (roundIn_of_wpIn hfn (wpIn_mono (hround (w.heap.size + 1) x y0 v W (W.putObj (w.heap.size + 1) (.loop { rec .ready none with state := .busy })) hi (hI _ _ _ _ _ hi (by omega) hl rfl) hstep) ?_))⟩
      rintro e a1 W1 hp1
      cases e with
      | normal =>
        obtain ⟨hWe, hb1⟩ := hp1
        rw [hWe]
        refine ⟨_, run_beginRound hl (by rw [hrec]), ?_⟩
        refine wpIn_mono hb1 ?_
        have hl2 : (W.putObj (w.heap.size + 1) (.loop { rec .ready none with state := .busy })).heap[w.heap.size + 1]? = some (.loop { rec .ready none with state := .busy }) := World.putObj_heap_same hlt
        have hk2 : (W.putObj (w.heap.size + 1) (.loop { rec .ready none with state := .busy })).heap[w.heap.size]? = some (.deferred (some [])) := (World.putObj_heap_other (by omega)).trans hk
        have ho2 := hpo (A := W) (l := w.heap.size + 1) (.loop { rec .ready none with state := .busy }) (by omega) hoo
        have fin : ∀ (jump : Option Code) (W3 : World), KeepsOthers (W.putObj (w.heap.size + 1) (.loop { rec .ready none with state := .busy })) W3 →
            (Instr.endRound (w.heap.size + 1) jump).run P W3 = .ok (.bool jump.isNone) (W3.putObj (w.heap.size + 1) (.loop (rec (if jump.isNone then .ready else .done) jump))) ∧
            W3.heap[w.heap.size + 1]? = some (.loop { rec .ready none with state := .busy }) ∧
            (W3.putObj (w.heap.size + 1) (.loop (rec (if jump.isNone then .ready else .done) jump))).heap[w.heap.size + 1]? = some (.loop (rec (if jump.isNone then .ready else .done) jump)) ∧
            (W3.putObj (w.heap.size + 1) (.loop (rec (if jump.isNone then .ready else .done) jump))).heap[w.heap.size]? = some (.deferred (some [])) ∧
            (∀ k, k < w.heap.size → (∃ o, w.heap[k]? = some o ∧ o.isCells = false) → (W3.putObj (w.heap.size + 1) (.loop (rec (if jump.isNone then .ready else .done) jump))).heap[k]? = w.heap[k]?) := fun jump W3 hk3 => by
          have hl3 := hk3.same _ _ hl2 rfl
          have := run_endRound (P := P) jump hl3
          rw [hrec] at this ⊢
          exact ⟨this, by rw [hrec] at hl3; exact hl3, World.putObj_heap_same (Array.getElem?_eq_some_iff.1 hl3).1, (World.putObj_heap_other (by omega)).trans (hk3.same _ _ hk2 rfl), hpo _ (by omega) (hno hk3 ho2)⟩
        rintro e a3 W3 hp
        cases e with
        | normal =>
          obtain ⟨hk3, y, hs3, hi3⟩ := hp
          obtain ⟨hr, hl3, hl4, hk4, ho4⟩ := fin none W3 hk3
          exact ⟨_, _, hr, .inl ⟨rfl, y, hs3, hI _ _ _ _ _ hi3 (by omega) hl3 rfl, hl4, hk4, ho4⟩⟩
        | ret =>
          obtain ⟨hk3, hi3⟩ := hp
          obtain ⟨hr, hl3, hl4, hk4, ho4⟩ := fin (some .ret) W3 hk3
          exact ⟨_, _, hr, .inr ⟨rfl, .ret, hIx _ _ _ _ _ hi3 (by omega) hl3 rfl, hl4, hk4, ho4⟩⟩
        | exit id =>
          obtain ⟨hk3, hi3⟩ := hp
          obtain ⟨hr, hl3, hl4, hk4, ho4⟩ := fin (some (.exit id)) W3 hk3
          exact ⟨_, _, hr, .inr ⟨rfl, .exit id, hIx _ _ _ _ _ hi3 (by omega) hl3 rfl, hl4, hk4, ho4⟩⟩
        | goto t =>
          obtain ⟨hk3, hi3⟩ := hp
          obtain ⟨hr, hl3, hl4, hk4, ho4⟩ := fin (some (.goto t)) W3 hk3
          exact ⟨_, _, hr, .inr ⟨rfl, .goto t, hIx _ _ _ _ _ hi3 (by omega) hl3 rfl, hl4, hk4, ho4⟩⟩
        | panic ch => exact hp.elim
        | outgrown => exact hp.elim
      | _ => exact hp1.elim
    · -- behind the iterator
      rintro e W2 ⟨⟨v, rfl⟩, (⟨x, ⟨hi, hl, hk, hoo⟩, hd⟩ | ⟨c, hi, hl, hk, hoo⟩)⟩
      · exact ⟨none, _, by have := run_endLoop (P := P) hl (by rw [hrec]; simp); rw [hrec] at this; exact this, hdone _ x _ (Nat.le_refl _) hd (hI _ _ _ _ _ hi (by omega) hl rfl) ((World.putObj_heap_other (by omega)).trans hk) (hpo _ (by omega) hoo)⟩
      · exact ⟨some c, _, by have := run_endLoop (P := P) hl (by rw [hrec]; simp); rw [hrec] at this; exact this, wpIn_wide.2 (hstop _ c _ (Nat.le_refl _) (hIx _ _ _ _ _ hi (by omega) hl rfl) ((World.putObj_heap_other (by omega)).trans hk) (hpo _ (by omega) hoo))⟩

end Go.Proofs.Ytjlihidmohokhaa
