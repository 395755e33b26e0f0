
/-
  What an append of one thing to a row of one's own does, at a step of a region that draws and in a plain region: words, what was turned, stops; conditions: the rows' lengths.
-/
import Derived.Test.YtdjdiaadflggfaaBMem
import Derived.Deep.RegionLaw
import Derived.BigRegion
namespace Go.Proofs.Ytdjdiaadflggfaa
open Go.RowKit Go.Proofs.Ytdjdiaadflggfaa.Ln Go.Proofs.Ytdjdiaadflggfaa.Ol

theorem Try.infoTurn : (Try.prog.info? 58).map (fun i => (i.zero, i.size, i.bytes)) = some (some (.agg #[.int .i64 0, .int .i64 0, .int .u64 0]), 3, 24) := by kernel_rfl
theorem Try.infoStop : (Try.prog.info? 56).map (fun i => (i.zero, i.size, i.bytes)) = some (some (.agg #[.int .i64 0, .slice none 0 0]), 2, 32) := by kernel_rfl
theorem Try.infoU64 : (Try.prog.info? 52).map (fun i => (i.zero, i.size, i.bytes)) = some (some (.int .u64 0), 1, 8) := by kernel_rfl
theorem Try.infoMark : (Try.prog.info? 71).map (fun i => (i.zero, i.size, i.bytes)) = some (some (.agg #[.int .i64 0, .int .u64 0]), 2, 16) := by kernel_rfl
theorem Try.infoMarks : (Try.prog.info? 63).map (fun i => (i.zero, i.size, i.bytes)) = some (some (.slice none 0 0), 1, 24) := by kernel_rfl
theorem cells_new (W : World) (cs : Array Value) (b : Nat) (hb : b = W.heap.size) (ty : TypeId) : ∀ j u, cs.toList[j]? = some u → (W.alloc (.cells cs ty)).cell? ((⟨b, 0, none⟩ : Addr).add j) = some u := by
  intro j u h
  subst hb
  have h3 : (⟨W.heap.size, 0, none⟩ : Addr).add j = ⟨W.heap.size, j, none⟩ := by
    unfold Addr.add
    split <;> simp_all
  have hh : (W.alloc (.cells cs ty)).heap[W.heap.size]? = some (.cells cs ty) := by
    show (W.heap.push _)[W.heap.size]? = _
    exact Array.getElem?_push_size
  rw [h3]
  simp only [World.cell?, hh]
  simpa using h
section
variable {ops : Array Oper} {o : Oper} {a : Act} {w : World}
theorem run_app (t ty e : TypeId) (z : Value) (size bytes : Nat) (ht : Try.prog.underlying t = some (.slice e)) (hinfo : (Try.prog.info? e).map (fun i => (i.zero, i.size, i.bytes)) = some (some z, size, bytes)) (hzs : z.cells.size = size) (hsz : 0 < size)
    (B b : Nat) (mv : Value) (n : Nat) (xs cs : List Value) (hm : w.ownsRow B e size mv n xs) (hc : cs.length = size) (hone : ∀ u ∈ cs, u.oneCell' = true) (hcell : ∀ j u, cs[j]? = some u → w.cell? ((⟨b, 0, none⟩ : Addr).add j) = some u) (hlen : n < 1073741824) (hby : bytes ≤ 64) (hB : B ≤ w.heap.size) :
    ∃ g c w', (Builtin.append_ #[t, t] ty #[mv, .slice (some ⟨b, 0, none⟩) 1 1]).run Try.prog w = .ok (.slice (some ⟨g, 0, none⟩) (n + 1) c) w' ∧ w'.ownsRow B e size (.slice (some ⟨g, 0, none⟩) (n + 1) c) (n + 1) (xs ++ cs) ∧ w.grownBy w' mv.ownBlock ∧ (some g = mv.ownBlock ∨ g = w.heap.size) := by
  obtain ⟨i0, hi, hz0, hz1, hz2⟩ := info_parts hinfo
  have hb2 : (n + 1) * bytes ≤ 140737488355328 := by
    have : (n + 1) * bytes ≤ (n + 1) * 64 := Nat.mul_le_mul_left _ hby
    omega
  obtain ⟨v', w', hr, h2, h3, _, h5⟩ := run_append_own_at (P := Try.prog) w B t ty e i0 z size bytes ht hi hz0 hz1 hz2 hzs hsz mv n xs hm ⟨b, 0, none⟩ 1 1 cs (by omega) hcell hone (by unfold maxLen; omega) hb2 hB
  obtain ⟨g, c, rfl⟩ : ∃ g c, v' = .slice (some ⟨g, 0, none⟩) (n + 1) c := by
    rcases h2.2 with ⟨_, h0⟩ | ⟨g, cap, _, rfl, _⟩
    · omega
    · exact ⟨g, cap, rfl⟩
  refine ⟨g, c, w', hr, h2, h3, ?_⟩
  rcases h5 with h5 | h5
  · exact Or.inl h5
  · exact Or.inr (by simpa [Value.ownBlock] using h5)
/-- as a step of a region that draws -/
theorem step_app {K : Act → World → Prop} {Q : Exit → Act → World → Prop} {E : Prop}
    (hg : o.guard = none) (s x : Operand) (t e : TypeId) (hop : o.op = Op.call { callee := Callee.builtin Builtin.append, args := #[s, x], argTypes := #[t, t] }) (z : Value) (size bytes : Nat) (ht : Try.prog.underlying t = some (.slice e)) (hinfo : (Try.prog.info? e).map (fun i => (i.zero, i.size, i.bytes)) = some (some z, size, bytes)) (hzs : z.cells.size = size) (hsz : 0 < size)
    (B b : Nat) (mv : Value) (n : Nat) (xs cs : List Value) (hs : a.eval s = mv) (hx : a.eval x = .slice (some ⟨b, 0, none⟩) 1 1)
    (hm : w.ownsRow B e size mv n xs) (hc : cs.length = size) (hone : ∀ u ∈ cs, u.oneCell' = true) (hcell : ∀ j u, cs[j]? = some u → w.cell? ((⟨b, 0, none⟩ : Addr).add j) = some u) (hlen : n < 1073741824) (hby : bytes ≤ 64) (hB : B ≤ w.heap.size)
    (hK : ∀ g c w', w'.ownsRow B e size (.slice (some ⟨g, 0, none⟩) (n + 1) c) (n + 1) (xs ++ cs) → w.grownBy w' mv.ownBlock → (some g = mv.ownBlock ∨ g = w.heap.size) → K (a.put o.dst (.slice (some ⟨g, 0, none⟩) (n + 1) c)) w') :
    if Region.wanted o (yielded ops a.tmps) = true then Oper.wp Try.prog o a w K Q else E := by
  have hw : Region.wanted o (yielded ops a.tmps) = true := by simp [Region.wanted, hg]
  rw [if_pos hw]
  obtain ⟨g, c, w', hr, h2, h3, h4⟩ := run_app t o.type e z size bytes ht hinfo hzs hsz B b mv n xs cs hm hc hone hcell hlen hby hB
  unfold Oper.wp execOp
  simp only [hop, resolve, invoke, builtin, Sem.run_bind, Sem.run_pure, Result.andThen_ok, List.map_toArray, List.map_cons, List.map_nil, hs, hx, hr]
  exact hK g c w' h2 h3 h4
/-- a call of one of the program's functions, as a step of a region that draws -/
theorem step_call {K : Act → World → Prop} {Q : Exit → Act → World → Prop} {E : Prop} (hg : o.guard = none) (f : FuncId) (xs : Array Operand) (ats : Array TypeId)
    (hop : o.op = Op.call { callee := Callee.value (Operand.func f), args := xs, argTypes := ats }) (args : Array Value) (he : xs.map a.eval = args) (hent : ∀ args w, (callFunc f args).run Try.prog w = .ok (.enter f args) w) {R : Ending → World → Prop} (hc : Calls Try.prog f args w R) (hK : ∀ e w', R e w' → ∃ v, e = .returned v ∧ K (a.put o.dst v) w') :
    if Region.wanted o (yielded ops a.tmps) = true then Oper.wp Try.prog o a w K Q else E := by
  have hw : Region.wanted o (yielded ops a.tmps) = true := by simp [Region.wanted, hg]
  rw [if_pos hw]
  have ef : a.eval (.func f) = .func (.func f) #[] #[] := rfl
  have e1 : execOp a.eval o = callFunc f (xs.map a.eval) := by
    unfold execOp
    simp [hop, resolve, Deferred.ofValue, invoke, ef]
  unfold Oper.wp
  rw [e1, he, hent, Oper.upon_enter]
  refine hc.mono fun e w' h => ?_
  obtain ⟨v, rfl, h2⟩ := hK e w' h
  exact h2
/-- in a plain region -/
theorem wpList_app {rest : List Oper} {Q : Exit → Act → World → Prop}
    (hg : o.guard = none) (s x : Operand) (t e : TypeId) (hop : o.op = Op.call { callee := Callee.builtin Builtin.append, args := #[s, x], argTypes := #[t, t] }) (z : Value) (size bytes : Nat) (ht : Try.prog.underlying t = some (.slice e)) (hinfo : (Try.prog.info? e).map (fun i => (i.zero, i.size, i.bytes)) = some (some z, size, bytes)) (hzs : z.cells.size = size) (hsz : 0 < size)
    (B b : Nat) (mv : Value) (n : Nat) (xs cs : List Value) (hs : a.eval s = mv) (hx : a.eval x = .slice (some ⟨b, 0, none⟩) 1 1)
    (hm : w.ownsRow B e size mv n xs) (hc : cs.length = size) (hone : ∀ u ∈ cs, u.oneCell' = true) (hcell : ∀ j u, cs[j]? = some u → w.cell? ((⟨b, 0, none⟩ : Addr).add j) = some u) (hlen : n < 1073741824) (hby : bytes ≤ 64) (hB : B ≤ w.heap.size)
    (hK : ∀ g c w', w'.ownsRow B e size (.slice (some ⟨g, 0, none⟩) (n + 1) c) (n + 1) (xs ++ cs) → w.grownBy w' mv.ownBlock → (some g = mv.ownBlock ∨ g = w.heap.size) → wpList Try.prog ops Q rest (a.put o.dst (.slice (some ⟨g, 0, none⟩) (n + 1) c)) w') :
    wpList Try.prog ops Q (o :: rest) a w := by
  refine BigFrame.wpList_want (by simp [Region.wanted, hg]) fun _ hK2 => ?_
  obtain ⟨g, c, w', hr, h2, h3, h4⟩ := run_app t o.type e z size bytes ht hinfo hzs hsz B b mv n xs cs hm hc hone hcell hlen hby hB
  unfold Oper.wp execOp
  simp only [hop, resolve, invoke, builtin, Sem.run_bind, Sem.run_pure, Result.andThen_ok, List.map_toArray, List.map_cons, List.map_nil, hs, hx, hr]
  exact hK2 _ _ (hK g c w' h2 h3 h4)
end
/-- the table's block stays while a row grows -/
theorem TbC.grown {W W' : World} {T : Nat} {c0 c1 c2 c3 c4 c5 c6 c7 c8 : Value} (h : TbC W T c0 c1 c2 c3 c4 c5 c6 c7 c8) {B : Nat} {e : TypeId} {size n : Nat} {v : Value} {xs : List Value} (ho : W.ownsRow B e size v n xs) (he : e ≠ 48) (hg : W.grownBy W' v.ownBlock) : TbC W' T c0 c1 c2 c3 c4 c5 c6 c7 c8 :=
  h.keep (hg.block T h.lt fun hv => own_notT h ho he hv.symm)

end Go.Proofs.Ytdjdiaadflggfaa
