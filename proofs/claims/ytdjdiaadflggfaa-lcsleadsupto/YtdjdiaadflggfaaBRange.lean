
/-
  A range over a function whose rounds may turn maps too; a region that draws its order, in a round; no conditions.
-/
import Derived.Test.YtdjdiaadflggfaaORange
import Derived.Deep.RegionLaw
import Derived.Deep.RegionHeld3
import Derived.BigQuiet
import Derived.BigRegion
namespace Go.Proofs.Ytdjdiaadflggfaa
open Go.RowKit Go.Proofs.Ytdjdiaadflggfaa.Ln Go.Proofs.Ytdjdiaadflggfaa.Ol

/-- neither cells nor a map -/
def quietO : Obj → Bool
  | .cells .. => false
  | .map .. => false
  | _ => true
/-- all else lies as it lay -/
structure KeepsQ (W W' : World) : Prop where
  size : W.heap.size ≤ W'.heap.size
  same : ∀ (k : Nat) o, W.heap[k]? = some o → quietO o = true → W'.heap[k]? = some o
theorem KeepsQ.trans {A B C : World} (h : KeepsQ A B) (k : KeepsQ B C) : KeepsQ A C := ⟨Nat.le_trans h.size k.size, fun i o ho hq => k.same i o (h.same i o ho hq) hq⟩
theorem KeepsQ.of_below {W W' : World} (h : Below W.heap.size W W') : KeepsQ W W' := ⟨h.size, fun k _ hk _ => (h.block k (Array.getElem?_eq_some_iff.1 hk).1).trans hk⟩
/-- what is turned is of those kinds -/
theorem KeepsQ.grown {W W' : World} {row : Option Nat} (h : W.grownBy W' row) (hr : ∀ k o, row = some k → W.heap[k]? = some o → quietO o = false) : KeepsQ W W' := ⟨h.size, fun k o hk hq => (h.block k (Array.getElem?_eq_some_iff.1 hk).1 (fun e => by have := hr k o e.symm hk; rw [this] at hq; cases hq)).trans hk⟩
theorem KeepsQ.setCell (W : World) (a : Addr) (u : Value) : KeepsQ W (W.setCell a u) := ⟨by simp, fun k o hk hq => by
  by_cases e : k = a.block
  · subst e
    obtain ⟨hlt, hv⟩ := Array.getElem?_eq_some_iff.1 hk
    show (W.heap.modify a.block _)[a.block]? = _
    rw [Array.getElem?_eq_getElem (by rw [Array.size_modify]; exact hlt), Array.getElem_modify_self, hv]
    cases o <;> first | rfl | cases hq
  · exact (heap_setCell_other W a k u e).trans hk⟩
/-- how a round's body may be left -/
def bPostQ {α : Type} (St : α → Prop) (I : α → World → Prop) (Ix : Code → World → Prop) (W : World) : Exit → Act → World → Prop
  | .normal, _, W' => KeepsQ W W' ∧ ∃ y, St y ∧ I y W'
  | .ret, _, W' => KeepsQ W W' ∧ Ix .ret W'
  | .exit id, _, W' => KeepsQ W W' ∧ Ix (.exit id) W'
  | .goto t, _, W' => KeepsQ W W' ∧ Ix (.goto t) W'
  | .panic _, _, _ => False
  | .outgrown, _, _ => False

theorem wp_range_quiet {P : Program} {α : Type} {g : Operand} {ps : Array Tmp} {assign body : Code} {Q : Exit → Act → World → Prop} {a : Act} {w : World} {gf : Nat} {lb : Array Value}
    (hg : a.eval g = .func (.func gf) #[] lb) (eg : ∀ args w, (callFunc gf args).run P w = .ok (.enter gf args) w) 
    (I : α → World → Prop) (Ix : Code → World → Prop) (Step : α → Array Value → α → Prop) (Done : α → Prop) (hsz : ∀ x v y, Step x v y → v.size = ps.size)
    (hal : ∀ x W o, I x W → I x (W.alloc o))
    (hI : ∀ x W l o o', I x W → w.heap.size ≤ l → W.heap[l]? = some o → quietO o = true → I x (W.putObj l o'))
    (hIx : ∀ c W l o o', Ix c W → w.heap.size ≤ l → W.heap[l]? = some o → quietO o = true → Ix c (W.putObj l o'))
    (x0 : α) (h0 : I x0 w)
    (hround : ∀ (l : Nat) (x y0 : α) (v : Array Value) (W : World), I x W → Step x v y0 → w.heap.size ≤ l → l < W.heap.size → (∃ o, W.heap[l]? = some o ∧ quietO o = true) → assign.wpIn (Fence.wide.inRound l) 3 P (Exit.then (fun a₁ W1 => KeepsQ W W1 ∧ ∀ o', body.wpIn (Fence.wide.inRound l) 3 P (bPostQ (Step x v) I Ix (W1.putObj l o')) a₁ (W1.putObj l o')) (fun _ _ _ => False)) { tmps := (ps.zip v).foldl (fun t (p, v) => t.setIfInBounds p v) a.tmps, defers := [] } W)
    (hiter : ∀ (l : Nat) (J : α → World → Prop) (Jx : World → Prop) (W : World), (∀ x W, J x W → I x W) → (∀ x y W W', J x W → I y W' → KeepsQ W W' → J y W') → J x0 W →
      (∀ x v y0 W, Step x v y0 → J x W → ∀ m, YieldAt Fence.wide m P l v W fun e W' => (e = .returned (.bool true) ∧ ∃ y, Step x v y ∧ J y W') ∨ (e = .returned (.bool false) ∧ Jx W')) →
      Calls P gf (#[.func (.yield l) #[] #[]] ++ lb) W fun e W' => (∃ v, e = .returned v) ∧ ((∃ x, J x W' ∧ Done x) ∨ Jx W'))
    (hdone : ∀ (D : Nat) (x : α) (W : World), w.heap.size ≤ D → Done x → I x W → W.heap[D]? = some (.deferred (some [])) → (∀ k, k < w.heap.size → (∃ o, w.heap[k]? = some o ∧ quietO o = true) → W.heap[k]? = w.heap[k]?) → Q .normal { a with defers := { target := .collected D, args := #[] } :: a.defers } W)
    (hstop : ∀ (D : Nat) (c : Code) (W : World), w.heap.size ≤ D → Ix c W → W.heap[D]? = some (.deferred (some [])) → (∀ k, k < w.heap.size → (∃ o, w.heap[k]? = some o ∧ quietO o = true) → W.heap[k]? = w.heap[k]?) → c.wp P Q { a with defers := { target := .collected D, args := #[] } :: a.defers } W) :
    (Code.rangeFunc g ps assign body).wp P Q a w := by
  refine (wpIn_wide (n := 5)).1 (wpIn_rangeFunc ?_)
  intro fn hfn
  obtain ⟨rec, hrec⟩ : ∃ rec : LoopState → Option Code → Loop, rec = fun st pe => { state := st, pending := pe, fn, tmps := a.tmps, params := ps, assign, body, defers := w.heap.size } := ⟨_, rfl⟩
  obtain ⟨W1, hW1⟩ : ∃ W1, (w.alloc (.deferred (some []))).alloc (.loop (rec .ready none)) = W1 := ⟨_, rfl⟩
  have hL1 : W1.heap[w.heap.size + 1]? = some (.loop (rec .ready none)) := by
    rw [← hW1]; have := World.alloc_heap_new (w.alloc (.deferred (some []))) (.loop (rec .ready none)); rwa [World.size_alloc] at this
  have hK1 : W1.heap[w.heap.size]? = some (.deferred (some [])) := by
    rw [← hW1]; exact (Below.heap_alloc _ _ _ (by simp)).trans (World.alloc_heap_new w _)
  have hI1 : I x0 W1 := by rw [← hW1]; exact hal _ _ _ (hal _ _ _ h0)
  have hO1 : ∀ k, k < w.heap.size → (∃ o, w.heap[k]? = some o ∧ quietO o = true) → W1.heap[k]? = w.heap[k]? := fun k hk _ => by
    rw [← hW1, Below.heap_alloc _ _ _ (by simp; omega), Below.heap_alloc _ _ _ hk]
  have hno : ∀ {A B : World}, KeepsQ A B → (∀ k, k < w.heap.size → (∃ o, w.heap[k]? = some o ∧ quietO o = true) → A.heap[k]? = w.heap[k]?) → ∀ k, k < w.heap.size → (∃ o, w.heap[k]? = some o ∧ quietO o = true) → B.heap[k]? = w.heap[k]? := fun hk hA k hlt ho => by
    obtain ⟨o, h1, h2⟩ := ho
    have h3 := hA k hlt ⟨o, h1, h2⟩
    rw [h1] at h3 ⊢
    exact hk.same k o h3 h2
  have hpo : ∀ {A : World} {l : Nat} (o' : Obj), w.heap.size ≤ l → (∀ k, k < w.heap.size → (∃ o, w.heap[k]? = some o ∧ quietO o = true) → A.heap[k]? = w.heap[k]?) → ∀ k, k < w.heap.size → (∃ o, w.heap[k]? = some o ∧ quietO o = true) → (A.putObj l o').heap[k]? = w.heap[k]? := fun o' hl hA k hlt ho => by
    rw [World.putObj_heap_other (by omega)]; exact hA k hlt ho
  refine ⟨w.heap.size + 1, [{ target := .collected w.heap.size, args := #[] }], W1, { target := .fn (.func gf) lb, args := #[.func (.yield (w.heap.size + 1)) #[] #[]] }, W1, gf,
    #[.func (.yield (w.heap.size + 1)) #[] #[]] ++ lb, W1, ?_, ?_, ?_, ?_, fun _ => by omega, ?_⟩
  · rw [← hW1, hrec]; exact run_enterLoop_outer _ _ _ _ _
  · simp only [resolve, hg]
    simp [go_sem]
  · intro f' hf'; trivial
  · simp [invoke, go_sem, eg]
  · refine callsIn_wide.2 ((hiter (w.heap.size + 1)
      (fun x W => I x W ∧ W.heap[w.heap.size + 1]? = some (.loop (rec .ready none)) ∧ W.heap[w.heap.size]? = some (.deferred (some [])) ∧ ∀ k, k < w.heap.size → (∃ o, w.heap[k]? = some o ∧ quietO o = true) → W.heap[k]? = w.heap[k]?)
      (fun W => ∃ c, Ix c W ∧ W.heap[w.heap.size + 1]? = some (.loop (rec .done (some c))) ∧ W.heap[w.heap.size]? = some (.deferred (some [])) ∧ ∀ k, k < w.heap.size → (∃ o, w.heap[k]? = some o ∧ quietO o = true) → W.heap[k]? = w.heap[k]?)
      W1 (fun _ _ h => h.1) (fun x y A B hJ hy hk => ⟨hy, hk.same _ _ hJ.2.1 rfl, hk.same _ _ hJ.2.2.1 rfl, hno hk hJ.2.2.2⟩) ⟨hI1, hL1, hK1, hO1⟩ ?_).mono ?_)
    · -- one round
      rintro x v y0 W hstep ⟨hi, hl, hk, hoo⟩ m
      have hlt : w.heap.size + 1 < W.heap.size := (Array.getElem?_eq_some_iff.1 hl).1
      have hy := run_yield (P := P) (args := v) hl (by rw [hrec]; exact hsz x v y0 hstep)
      rw [hrec] at hy
      refine ⟨fn, _, assign, body, hy, roundIn_any (m := 3) (roundIn_of_wpIn hfn (wpIn_mono (hround (w.heap.size + 1) x y0 v W hi hstep (by omega) hlt ⟨_, hl, rfl⟩) ?_))⟩
      rintro e a1 W1 hp1
      cases e with
      | normal =>
        obtain ⟨hk1, hb1⟩ := hp1
        have hl1 := hk1.same _ _ hl rfl
        have hlt1 : w.heap.size + 1 < W1.heap.size := (Array.getElem?_eq_some_iff.1 hl1).1
        have hkk1 := hk1.same _ _ hk rfl
        have hoo1 := hno hk1 hoo
        refine ⟨_, run_beginRound hl1 (by rw [hrec]), ?_⟩
        refine wpIn_mono (hb1 _) ?_
        have hl2 : (W1.putObj (w.heap.size + 1) (.loop { rec .ready none with state := .busy })).heap[w.heap.size + 1]? = some (.loop { rec .ready none with state := .busy }) := World.putObj_heap_same hlt1
        have hk2 : (W1.putObj (w.heap.size + 1) (.loop { rec .ready none with state := .busy })).heap[w.heap.size]? = some (.deferred (some [])) := (World.putObj_heap_other (by omega)).trans hkk1
        have ho2 := hpo (A := W1) (l := w.heap.size + 1) (.loop { rec .ready none with state := .busy }) (by omega) hoo1
        have fin : ∀ (jump : Option Code) (W3 : World), KeepsQ (W1.putObj (w.heap.size + 1) (.loop { rec .ready none with state := .busy })) W3 →
            (Instr.endRound (w.heap.size + 1) jump).run P W3 = .ok (.bool jump.isNone) (W3.putObj (w.heap.size + 1) (.loop (rec (if jump.isNone then .ready else .done) jump))) ∧
            W3.heap[w.heap.size + 1]? = some (.loop { rec .ready none with state := .busy }) ∧
            (W3.putObj (w.heap.size + 1) (.loop (rec (if jump.isNone then .ready else .done) jump))).heap[w.heap.size + 1]? = some (.loop (rec (if jump.isNone then .ready else .done) jump)) ∧
            (W3.putObj (w.heap.size + 1) (.loop (rec (if jump.isNone then .ready else .done) jump))).heap[w.heap.size]? = some (.deferred (some [])) ∧
            (∀ k, k < w.heap.size → (∃ o, w.heap[k]? = some o ∧ quietO o = true) → (W3.putObj (w.heap.size + 1) (.loop (rec (if jump.isNone then .ready else .done) jump))).heap[k]? = w.heap[k]?) := fun jump W3 hk3 => by
          have hl3 := hk3.same _ _ hl2 rfl
          have := run_endRound (P := P) jump hl3
          rw [hrec] at this ⊢
          exact ⟨this, by rw [hrec] at hl3; exact hl3, World.putObj_heap_same (Array.getElem?_eq_some_iff.1 hl3).1, (World.putObj_heap_other (by omega)).trans (hk3.same _ _ hk2 rfl), hpo _ (by omega) (hno hk3 ho2)⟩
        rintro e a3 W3 hp
        cases e with
        | normal =>
          obtain ⟨hk3, y, hs3, hi3⟩ := hp
          obtain ⟨hr, hl3, hl4, hk4, ho4⟩ := fin none W3 hk3
          exact ⟨_, _, hr, .inl ⟨rfl, y, hs3, hI _ _ _ _ _ hi3 (by omega) hl3 rfl, hl4, hk4, ho4⟩⟩
        | ret =>
          obtain ⟨hk3, hi3⟩ := hp
          obtain ⟨hr, hl3, hl4, hk4, ho4⟩ := fin (some .ret) W3 hk3
          exact ⟨_, _, hr, .inr ⟨rfl, .ret, hIx _ _ _ _ _ hi3 (by omega) hl3 rfl, hl4, hk4, ho4⟩⟩
        | exit id =>
          obtain ⟨hk3, hi3⟩ := hp
          obtain ⟨hr, hl3, hl4, hk4, ho4⟩ := fin (some (.exit id)) W3 hk3
          exact ⟨_, _, hr, .inr ⟨rfl, .exit id, hIx _ _ _ _ _ hi3 (by omega) hl3 rfl, hl4, hk4, ho4⟩⟩
        | goto t =>
          obtain ⟨hk3, hi3⟩ := hp
          obtain ⟨hr, hl3, hl4, hk4, ho4⟩ := fin (some (.goto t)) W3 hk3
          exact ⟨_, _, hr, .inr ⟨rfl, .goto t, hIx _ _ _ _ _ hi3 (by omega) hl3 rfl, hl4, hk4, ho4⟩⟩
        | panic ch => exact hp.elim
        | outgrown => exact hp.elim
      | _ => exact hp1.elim
    · -- behind the iterator
      rintro e W2 ⟨⟨v, rfl⟩, (⟨x, ⟨hi, hl, hk, hoo⟩, hd⟩ | ⟨c, hi, hl, hk, hoo⟩)⟩
      · exact ⟨none, _, by have := run_endLoop (P := P) hl (by rw [hrec]; simp); rw [hrec] at this; exact this, hdone _ x _ (Nat.le_refl _) hd (hI _ _ _ _ _ hi (by omega) hl rfl) ((World.putObj_heap_other (by omega)).trans hk) (hpo _ (by omega) hoo)⟩
      · exact ⟨some c, _, by have := run_endLoop (P := P) hl (by rw [hrec]; simp); rw [hrec] at this; exact this, wpIn_wide.2 (hstop _ c _ (Nat.le_refl _) (hIx _ _ _ _ _ hi (by omega) hl rfl) ((World.putObj_heap_other (by omega)).trans hk) (hpo _ (by omega) hoo))⟩

theorem operIn_of_oper {P : Program} {l n : Nat} {o : Oper} {a : Act} {w : World} {K : Act → World → Prop} {Q : Exit → Act → World → Prop} (hnd : ∀ c, o.op ≠ .defer c) (h : o.wp P a w K Q) : o.wpIn (Fence.wide.inRound l) n P a w K Q := by
  unfold Oper.wp at h
  unfold Oper.wpIn
  refine ⟨fun f _ => trivial, ?_⟩
  rw [show (Fence.wide.inRound l).round = some l from rfl, Oper.semAt_some l _ _ hnd]
  generalize (execOp a.eval o).run P w = r at h
  cases r with
  | ok x w' =>
    cases x with
    | value v => exact h
    | skip => exact h
    | defer d => exact h
    | enter f args => exact ⟨fun hh => (by cases hh), CallsIn.inRound l (callsIn_wide.2 h)⟩
    | row r args =>
      refine ⟨fun hh => (by cases hh), fun c cs _ => ?_⟩
      obtain ⟨v, w'', hr, hs⟩ := h c cs
      exact ⟨v, w'', hr, stepsIn_wide.2 hs⟩
    | _ => exact h.elim
  | halt x w' =>
    cases x with
    | panic v => exact h
    | _ => exact h.elim
theorem wpAnyIn_of_any {P : Program} {l n : Nat} {ops : Array Oper} {md : Region.Mode} {Q : Exit → Act → World → Prop} (hnd : ∀ (i : Nat) (o : Oper), ops[i]? = some o → ∀ c, o.op ≠ .defer c) (hl : ¬ LetsOut Q) : ∀ (fuel : Nat) (listed : Array Bool) (a : Act) (w : World), wpAny P md ops Q fuel listed a w → wpAnyIn (Fence.wide.inRound l) n P md ops Q fuel listed a w := by
  intro fuel
  induction fuel with
  | zero => intro listed a w h; exact h
  | succ fuel ih =>
    intro listed a w h
    refine ⟨h.1, fun i hi => ?_⟩
    have h2 := h.2 i hi
    unfold wpOp at h2
    unfold wpOpIn
    cases ho : ops[i]? with
    | none => rw [ho] at h2; exact ih _ a w h2
    | some o =>
      rw [ho] at h2
      simp only at h2 ⊢
      by_cases hw : Region.wanted o (yielded ops a.tmps) = true
      · rw [if_pos hw] at h2 ⊢
        rcases h2 with h2 | h2
        · exact operIn_of_oper (hnd i o ho) (Oper.wp_mono (fun a' w' => ih _ a' w') h2)
        · exact absurd h2.2 hl
      · rw [if_neg hw] at h2 ⊢
        exact ⟨fun _ _ => trivial, ih _ _ _ h2⟩
/-- a region in a round -/
theorem wpIn_region_round {P : Program} {l n id : Nat} {ops : Array Oper} {Q : Exit → Act → World → Prop} {a : Act} {w : World} (hm : P.follows .mixedOrders = true) (hnd : ops.all (fun o => match o.op with | .defer _ => false | _ => true) = true) (hl : ¬ LetsOut Q) (h : wpAny P .any ops Q ops.size (Array.replicate ops.size false) a w.drew) : (Code.region id ops true).wpIn (Fence.wide.inRound l) n P Q a w := by
  refine wpIn_region_any hm (wpAnyIn_of_any (fun i o ho c e => ?_) hl _ _ _ _ h)
  have h1 := Array.all_eq_true.1 hnd i (Array.getElem?_eq_some_iff.1 ho).1
  rw [(Array.getElem?_eq_some_iff.1 ho).2, e] at h1
  cases h1
/-- a region in a round, all that it reads taken first -/
theorem wpIn_region_held {P : Program} {l n id : Nat} {ops : Array Oper} {Q : Exit → Act → World → Prop} {a : Act} {w : World} {S : World → Prop} (hm : P.follows .mixedOrders = true) (hnd : ops.all (fun o => match o.op with | .defer _ => false | _ => true) = true) (hl : ¬ LetsOut Q) (hS : S w.drew) (h : S w.drew → wpAnyH P .any ops Q S ops.size (Array.replicate ops.size false) a w.drew) : (Code.region id ops true).wpIn (Fence.wide.inRound l) n P Q a w :=
  wpIn_region_round hm hnd hl (wpAny_of_held _ _ _ _ (h hS))

end Go.Proofs.Ytdjdiaadflggfaa
