
/-
  What slices.Clone answers of a row of words; condition: the row's length.
-/
import Derived.Test.YtdjdiaadflggfaaBNear
import Derived.Lib.SliceRun
namespace Go.Proofs.Ytdjdiaadflggfaa
open Go.RowKit Go.Proofs.Ytdjdiaadflggfaa.Ln Go.Proofs.Ytdjdiaadflggfaa.Ol

/-- an append of many words to a row of one's own -/
theorem run_appw (w : World) (ty : TypeId) (B : Nat) (mv u : Value) (n m : Nat) (xs ys : List Value) (hm : w.ownsRow B 52 1 mv n xs) (hu : w.ownsRow B 52 1 u m ys) (hone : ∀ z ∈ ys, z.oneCell' = true) (hl : n + m < 1073741824) (hB : B ≤ w.heap.size) :
    ∃ v' w', (Builtin.append_ #[44, 44] ty #[mv, u]).run Try.prog w = .ok v' w' ∧ w'.ownsRow B 52 1 v' (n + m) (xs ++ ys) ∧ w.grownBy w' mv.ownBlock ∧ (v'.ownBlock = mv.ownBlock ∨ v'.ownBlock = some w.heap.size) := by
  obtain ⟨i0, hi, hz0, hz1, hz2⟩ := info_parts Try.infoU64
  rcases hu.2 with ⟨rfl, rfl⟩ | ⟨g, cap, cur, rfl, hb, hh, hn, hmx, hs, ht⟩
  · have hy : ys = [] := List.eq_nil_of_length_eq_zero (by have := hu.1; omega)
    subst hy
    exact ⟨mv, w, run_append_owned_none (P := Try.prog) (w := w) B 44 ty 52 i0 1 Try.underlying44 hi mv _ _ hm, by rw [List.append_nil]; exact hm, ⟨rfl, rfl, rfl, Nat.le_refl _, fun _ _ _ => rfl⟩, Or.inl rfl⟩
  · obtain ⟨v', w', hr, h2, h3, _, h5⟩ := run_append_own_at (P := Try.prog) w B 44 ty 52 i0 (.int .u64 0) 1 8 Try.underlying44 hi hz0 hz1 hz2 rfl (by decide) mv n xs hm ⟨g, 0, none⟩ m cap ys (by have := hu.1; omega) (fun j u hj => by have := hu.cells (g := g) rfl j u hj; exact this) hone (by unfold maxLen; omega) (by omega) hB
    exact ⟨v', w', hr, h2, h3, h5⟩
theorem wp_appw {o : Oper} {a : Act} {w : World} {K : Act → World → Prop} {Q : Exit → Act → World → Prop} (s x : Operand)
    (hop : o.op = Op.call { callee := Callee.builtin Builtin.append, args := #[s, x], argTypes := #[44, 44] }) (B : Nat) (mv u : Value) (n m : Nat) (xs ys : List Value) (hs : a.eval s = mv) (hx : a.eval x = u) (hm : w.ownsRow B 52 1 mv n xs) (hu : w.ownsRow B 52 1 u m ys) (hone : ∀ z ∈ ys, z.oneCell' = true) (hl : n + m < 1073741824) (hB : B ≤ w.heap.size)
    (hK : ∀ v' w', w'.ownsRow B 52 1 v' (n + m) (xs ++ ys) → w.grownBy w' mv.ownBlock → (v'.ownBlock = mv.ownBlock ∨ v'.ownBlock = some w.heap.size) → K (a.put o.dst v') w') : o.wp Try.prog a w K Q := by
  obtain ⟨v', w', hr, h2, h3, h4⟩ := run_appw w o.type B mv u n m xs ys hm hu hone hl hB
  unfold Oper.wp execOp
  simp only [hop, resolve, invoke, builtin, Sem.run_bind, Sem.run_pure, Result.andThen_ok, List.map_toArray, List.map_cons, List.map_nil, hs, hx, hr]
  exact hK v' w' h2 h3 h4
theorem wpList_appw {ops : Array Oper} {o : Oper} {a : Act} {w : World} {rest : List Oper} {Q : Exit → Act → World → Prop} (hg : o.guard = none) (s x : Operand)
    (hop : o.op = Op.call { callee := Callee.builtin Builtin.append, args := #[s, x], argTypes := #[44, 44] }) (B : Nat) (mv u : Value) (n m : Nat) (xs ys : List Value) (hs : a.eval s = mv) (hx : a.eval x = u) (hm : w.ownsRow B 52 1 mv n xs) (hu : w.ownsRow B 52 1 u m ys) (hone : ∀ z ∈ ys, z.oneCell' = true) (hl : n + m < 1073741824) (hB : B ≤ w.heap.size)
    (hK : ∀ v' w', w'.ownsRow B 52 1 v' (n + m) (xs ++ ys) → w.grownBy w' mv.ownBlock → (v'.ownBlock = mv.ownBlock ∨ v'.ownBlock = some w.heap.size) → wpList Try.prog ops Q rest (a.put o.dst v') w') : wpList Try.prog ops Q (o :: rest) a w :=
  BigFrame.wpList_want (by simp [Region.wanted, hg]) fun _ hK2 => wp_appw s x hop B mv u n m xs ys hs hx hm hu hone hl hB fun v' w' h2 h3 h4 => hK2 _ _ (hK v' w' h2 h3 h4)
theorem step_appw {ops : Array Oper} {o : Oper} {a : Act} {w : World} {K : Act → World → Prop} {Q : Exit → Act → World → Prop} {E : Prop} (hg : o.guard = none) (s x : Operand)
    (hop : o.op = Op.call { callee := Callee.builtin Builtin.append, args := #[s, x], argTypes := #[44, 44] }) (B : Nat) (mv u : Value) (n m : Nat) (xs ys : List Value) (hs : a.eval s = mv) (hx : a.eval x = u) (hm : w.ownsRow B 52 1 mv n xs) (hu : w.ownsRow B 52 1 u m ys) (hone : ∀ z ∈ ys, z.oneCell' = true) (hl : n + m < 1073741824) (hB : B ≤ w.heap.size)
    (hK : ∀ v' w', w'.ownsRow B 52 1 v' (n + m) (xs ++ ys) → w.grownBy w' mv.ownBlock → (v'.ownBlock = mv.ownBlock ∨ v'.ownBlock = some w.heap.size) → K (a.put o.dst v') w') : if Region.wanted o (yielded ops a.tmps) = true then Oper.wp Try.prog o a w K Q else E := by
  have hw : Region.wanted o (yielded ops a.tmps) = true := by simp [Region.wanted, hg]
  rw [if_pos hw]
  exact wp_appw s x hop B mv u n m xs ys hs hx hm hu hone hl hB hK
theorem wcells_one (V : Bs) (N : Nat) : ∀ z ∈ wcells V N, z.oneCell' = true := by
  intro z hz
  obtain ⟨j, _, rfl⟩ := List.mem_map.1 hz
  rfl

set_option maxHeartbeats 1000000 in
theorem bclone_any (B : Nat) (v : Value) (V : Bs) (N : Nat) (w : World) (h : w.ownsRow B 52 1 v N (wcells V N)) (hN : N ≤ 4194304) (hB : B ≤ w.heap.size) :
    Calls Try.prog 31 #[v] w fun e w' => (∃ v', e = .returned v' ∧ w'.ownsRow B 52 1 v' N (wcells V N) ∧ ∀ g, v'.ownBlock = some g → w.heap.size ≤ g) ∧ Below w.heap.size w w' := by
  have HO := hidden h
  have q22 : ∀ (w : World) (a : Option Addr) (n c n' c' : Nat), (binOp .eql 44 (.slice a n c) (.slice none n' c')).run Try.prog w = .ok (.bool a.isNone) w := fun w a n c n' c' => Lib.run_eql_slice_nil w _ _ a n c n' c' Try.underlying44
  rcases h.2 with ⟨rfl, rfl⟩ | ⟨g, cap, cur, rfl, _⟩
  · clear h
    go_enter Try.func31, Try.ntmps31
    go_wp2_with fail
    go_ret
    exact ⟨⟨_, rfl, HO.out, fun g e => by cases e⟩, Below.refl _ _⟩
  · clear h
    go_enter Try.func31, Try.ntmps31
    go_wp2_with (at_builtin; go_must (refine wpList_appw rfl (.tmp 5) (.tmp 6) rfl B (.slice (some ⟨w.heap.size, 0, none⟩) 0 0) (.slice (some ⟨g, 0, none⟩) N cap) 0 N [] (wcells V N) rfl rfl (World.ownsRow_made w #[] 0 hB (by decide) (by simp)) (HO.out.alloc _) (wcells_one V N) (by omega) (by simp; omega) ?_; intro v9 w9 hown9 hg9 hl9))
    rw [Nat.zero_add, List.nil_append] at hown9
    have HOW := hidden hown9
    have HG := hidden hg9
    have HL := hidden hl9
    clear hown9 hg9 hl9
    go_wp2_with fail
    go_ret
    refine ⟨⟨v9, rfl, HOW.out, fun k hk => ?_⟩, ?_⟩
    · rcases HL.out with hl | hl
      · rw [hk] at hl; cases hl; exact Nat.le_refl _
      · rw [hk] at hl; cases hl; simp
    · refine (bel_alloc (Below.refl w.heap.size w) (.cells #[] 52)).trans ⟨HG.out.os, HG.out.tape, HG.out.output, ?_, fun k hk => HG.out.block k (by simp; omega) (fun e => by simp [Value.ownBlock] at e; omega)⟩
      exact HG.out.size

end Go.Proofs.Ytdjdiaadflggfaa
