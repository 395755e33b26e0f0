
/-
  A region of a round that may go in whatever order: what holds at each point of it, said of what has been done; conditions: that no operation is put off, and that each waits only for earlier ones.
-/
import Derived.Test.YtcjjboomljbmbaaCTog2
import Derived.OrdersIn
namespace Go.Proofs.Ytcjjboomljbmbaa
open Go.RowKit Go.Proofs.Ytcjjboomljbmbaa.Ln Go.Proofs.Ytcjjboomljbmbaa.Ol

/-- one more is done -/
def upd (f : Nat → Bool) (i : Nat) : Nat → Bool := fun j => j == i || f j
theorem upd_self (f : Nat → Bool) (i : Nat) : upd f i i = true := by simp [upd]
theorem upd_ne (f : Nat → Bool) {i j : Nat} (h : j ≠ i) : upd f i j = f j := by simp [upd, h]
/-- how many are still to be done -/
def cnt0 (f : Nat → Bool) : Nat → Nat
  | 0 => 0
  | n + 1 => cnt0 f n + if f n = true then 0 else 1
theorem cnt0_congr {f g : Nat → Bool} : ∀ n, (∀ j, j < n → g j = f j) → cnt0 g n = cnt0 f n
  | 0, _ => rfl
  | n + 1, h => by rw [cnt0, cnt0, cnt0_congr n (fun j hj => h j (by omega)), h n (by omega)]
theorem cnt0_upd {f : Nat → Bool} {i : Nat} (hf : f i = false) : ∀ n, i < n → cnt0 (upd f i) n + 1 = cnt0 f n
  | 0, h => absurd h (Nat.not_lt_zero _)
  | n + 1, h => by
    by_cases e : i = n
    · subst e
      rw [cnt0, cnt0, cnt0_congr i (fun j hj => upd_ne f (by omega)), upd_self, hf]
      simp
    · have ih := cnt0_upd hf n (by omega)
      rw [cnt0, cnt0, upd_ne f (by omega : n ≠ i)]
      omega
theorem cnt0_zero {f : Nat → Bool} : ∀ n, cnt0 f n = 0 → ∀ j, j < n → f j = true
  | 0, _, _, hj => absurd hj (Nat.not_lt_zero _)
  | n + 1, h, j, hj => by
    rw [cnt0] at h
    by_cases e : j = n
    · subst e
      cases hf : f j with
      | true => rfl
      | false => rw [hf] at h; simp at h
    · exact cnt0_zero n (by omega) j (by omega)
theorem cnt0_none : ∀ n, cnt0 (fun _ => false) n = n
  | 0 => rfl
  | n + 1 => by rw [cnt0, cnt0_none n]; rfl
theorem getD_in {l : Array Bool} {i : Nat} (h : i < l.size) (b c : Bool) : l.getD i b = l.getD i c := by simp [Array.getD, h]
theorem getD_upd {l : Array Bool} {f : Nat → Bool} {i j : Nat} (hj : j < l.size) (h : l.getD j true = f j) : (l.setIfInBounds i true).getD j true = upd f i j := by
  by_cases e : j = i
  · subst e; rw [upd_self]; simp [Array.getD, hj]
  · rw [upd_ne f e, ← h]
    simp [Array.getD, hj, Ne.symm e]
/-- what an operation waits for -/
def waits (ops : Array Oper) (i : Nat) : List Nat := match ops[i]? with
  | none => []
  | some o => (o.after.toList.filter (Region.binds .any)).map (·.on)
def lowB (ops : Array Oper) : Bool := (List.range ops.size).all fun i => (waits ops i).all fun j => decide (j < i)
theorem lowB_is {ops : Array Oper} (h : lowB ops = true) : ∀ i, ∀ j ∈ waits ops i, j < i := by
  intro i j hj
  by_cases hi : i < ops.size
  · have h1 := List.all_eq_true.1 h i (List.mem_range.2 hi)
    simpa using List.all_eq_true.1 h1 j hj
  · unfold waits at hj
    rw [Array.getElem?_eq_none (by omega)] at hj
    cases hj
theorem waits_mem {ops : Array Oper} {i : Nat} {o : Oper} (ho : ops[i]? = some o) {e : Edge} (he : e ∈ o.after) (hb : Region.binds .any e = true) : e.on ∈ waits ops i := by
  unfold waits
  rw [ho]
  exact List.mem_map.2 ⟨e, List.mem_filter.2 ⟨by simpa using he, hb⟩, rfl⟩
/-- whatever is done, what it waits for is done -/
def Closed (ops : Array Oper) (f : Nat → Bool) : Prop := ∀ k, f k = true → ∀ j ∈ waits ops k, f j = true
section
variable {F : Fence} {n : Nat} {P : Program} {ops : Array Oper} {Q : Exit → Act → World → Prop}
theorem wpAnyIn_inv (I : (Nat → Bool) → Act → World → Prop) (hlow : lowB ops = true)
    (step : ∀ f i a w, i < ops.size → f i = false → Closed ops f → (∀ j ∈ waits ops i, f j = true) → I f a w → ∀ K : Act → World → Prop, (∀ a w, I (upd f i) a w → K a w) → wpOpIn F n P ops Q i K a w)
    (fin : ∀ f a w, (∀ i, i < ops.size → f i = true) → I f a w → Q .normal a w) :
    ∀ (fuel : Nat) (f : Nat → Bool) (listed : Array Bool) (a : Act) (w : World), cnt0 f ops.size ≤ fuel → (∀ i, i < ops.size → listed.getD i true = f i) → listed.size = ops.size → Closed ops f → I f a w → wpAnyIn F n P .any ops Q fuel listed a w := by
  have hl := lowB_is hlow
  intro fuel
  induction fuel with
  | zero =>
    intro f listed a w hc hlf hs _ hI
    have hall := cnt0_zero _ (Nat.le_zero.1 hc)
    refine ⟨List.eq_nil_iff_forall_not_mem.2 fun i hi => ?_, fin f a w hall hI⟩
    obtain ⟨h1, o, ho, _⟩ := mem_ready.1 hi
    have hlt : i < ops.size := (Array.getElem?_eq_some_iff.1 ho).1
    rw [hlf i hlt, hall i hlt] at h1
    cases h1
  | succ fuel ih =>
    intro f listed a w hc hlf hs hcl hI
    refine ⟨fun h0 => fin f a w ?_ hI, fun i hi => ?_⟩
    · intro i
      induction i using Nat.strongRecOn with
      | _ i ihi =>
        intro hlt
        cases hf : f i with
        | true => rfl
        | false =>
          exfalso
          have : i ∈ Region.ready .any ops listed := mem_ready.2 ⟨(hlf i hlt).trans hf, ops[i], Array.getElem?_eq_getElem hlt, fun e he hb => by
            have hw := hl i _ (waits_mem (Array.getElem?_eq_getElem hlt) he hb)
            rw [getD_in (by omega) false true, hlf _ (by omega)]
            exact ihi _ hw (by omega)⟩
          rw [h0] at this
          cases this
    · obtain ⟨h1, o, ho, h2⟩ := mem_ready.1 hi
      have hlt : i < ops.size := (Array.getElem?_eq_some_iff.1 ho).1
      have hfi : f i = false := (hlf i hlt).symm.trans h1
      have hwt : ∀ j ∈ waits ops i, f j = true := fun j hj => by
        have hji := hl i j hj
        unfold waits at hj
        rw [ho] at hj
        obtain ⟨e, he, rfl⟩ := List.mem_map.1 hj
        obtain ⟨he1, he2⟩ := List.mem_filter.1 he
        have := h2 e (by simpa using he1) he2
        rw [getD_in (by omega) false true, hlf _ (by omega)] at this
        exact this
      refine step f i a w hlt hfi hcl hwt hI _ fun a' w' hI' => ih (upd f i) _ a' w' ?_ ?_ (by simpa using hs) ?_ hI'
      · have := cnt0_upd hfi _ hlt; omega
      · intro j hj
        exact getD_upd (by omega) (hlf j hj)
      · intro k hk j hj
        by_cases e : k = i
        · subst e
          by_cases e2 : j = k
          · subst e2; exact upd_self _ _
          · rw [upd_ne f e2]; exact hwt j hj
        · rw [upd_ne f e] at hk
          by_cases e2 : j = i
          · subst e2; exact upd_self _ _
          · rw [upd_ne f e2]; exact hcl k hk j hj
/-- a region that draws its order, by what holds at each point -/
theorem wpIn_region_inv (I : (Nat → Bool) → Act → World → Prop) {id : Nat} {a : Act} {w : World} (hm : P.follows .mixedOrders = true) (hlow : lowB ops = true) (start : I (fun _ => false) a w.drew)
    (step : ∀ f i a w, i < ops.size → f i = false → Closed ops f → (∀ j ∈ waits ops i, f j = true) → I f a w → ∀ K : Act → World → Prop, (∀ a w, I (upd f i) a w → K a w) → wpOpIn F n P ops Q i K a w)
    (fin : ∀ f a w, (∀ i, i < ops.size → f i = true) → I f a w → Q .normal a w) : (Code.region id ops true).wpIn F n P Q a w :=
  wpIn_region_any hm (wpAnyIn_inv I hlow step fin _ (fun _ => false) _ a _ (by rw [cnt0_none]; exact Nat.le_refl _) (fun i hi => by simp [Array.getD, hi]) (by simp) (fun _ h => by cases h) start)
end
section
variable {l n : Nat} {P : Program} {ops : Array Oper} {Q : Exit → Act → World → Prop} {o : Oper} {i : Nat} {a : Act} {w w' : World} {v : Value} {K : Act → World → Prop}
theorem opIn_value (hi : ops[i]? = some o) (hg : o.guard = none) (hnd : ∀ c, o.op ≠ .defer c) (hs : (execOp a.eval o).run P w = .ok (.value v) w') (h : K (a.put o.dst v) w') : wpOpIn (Fence.wide.inRound l) n P ops Q i K a w := by
  unfold wpOpIn Oper.wpIn
  rw [hi]
  simp only [Region.wanted, hg]
  rw [Oper.semAt_plain _ _ _ hnd, hs]
  exact ⟨fun _ _ => trivial, h⟩
theorem opIn_skip (hi : ops[i]? = some o) (hg : o.guard = none) (hnd : ∀ c, o.op ≠ .defer c) (hs : (execOp a.eval o).run P w = .ok .skip w') (h : K (a.put o.dst undef) w') : wpOpIn (Fence.wide.inRound l) n P ops Q i K a w := by
  unfold wpOpIn Oper.wpIn
  rw [hi]
  simp only [Region.wanted, hg]
  rw [Oper.semAt_plain _ _ _ hnd, hs]
  exact ⟨fun _ _ => trivial, h⟩
theorem opIn_call {f : FuncId} {args : Array Value} {R : Ending → World → Prop} (hi : ops[i]? = some o) (hg : o.guard = none) (hnd : ∀ c, o.op ≠ .defer c) (hs : (execOp a.eval o).run P w = .ok (.enter f args) w) (hc : Calls P f args w R) (h : ∀ e w', R e w' → ∃ v, e = .returned v ∧ K (a.put o.dst v) w') : wpOpIn (Fence.wide.inRound l) n P ops Q i K a w := by
  unfold wpOpIn Oper.wpIn
  rw [hi]
  simp only [Region.wanted, hg]
  rw [Oper.semAt_plain _ _ _ hnd, hs]
  refine ⟨fun _ _ => trivial, fun h => (by cases h), CallsIn.mono (CallsIn.inRound l (callsIn_wide.2 hc)) fun e w'' r => ?_⟩
  obtain ⟨v, rfl, hk⟩ := h e w'' r
  exact hk
end

end Go.Proofs.Ytcjjboomljbmbaa
