/-
  The walk through a text in memory: how it begins, and a state that is reached; conditions: how many states there are.
-/
import Derived.Test.YtjlihidmohokhaaNOut
import Derived.Laws.CopyOwn
namespace Go.Proofs.Ytjlihidmohokhaa
open Go.RowKit Go.Proofs.Ytjlihidmohokhaa.Gl

/-- a list of numbers as values -/
def ints (l : List Nat) : List Value := l.map fun (n : Nat) => Value.int .i64 (n : Int)

/-- numbers in memory -/
def Nums (W : World) (g N : Nat) (H : Nat → Nat) : Prop := ∃ cur : Array Value, W.heap[g]? = some (.cells cur 3) ∧ cur.size = N ∧ ∀ j, j < N → cur[j]? = some (.int .i64 (H j : Nat))
theorem Nums.lt {W : World} {g N : Nat} {H : Nat → Nat} (h : Nums W g N H) : g < W.heap.size := by
  obtain ⟨cur, h1, _⟩ := h
  exact (Array.getElem?_eq_some_iff.1 h1).1
theorem Nums.cell {W : World} {g N j : Nat} {H : Nat → Nat} (h : Nums W g N H) (hj : j < N) : W.cell? ⟨g, j, none⟩ = some (.int .i64 (H j : Nat)) := by
  obtain ⟨cur, h1, _, h2⟩ := h
  simp only [World.cell?, h1]
  exact h2 j hj
theorem Nums.thawed {W : World} {g N : Nat} {H : Nat → Nat} (h : Nums W g N H) (j : Nat) : W.frozen? ⟨g, j, none⟩ = false := by
  obtain ⟨cur, h1, _, h2⟩ := h
  simp [World.frozen?, h1]
theorem Nums.keep {W W' : World} {g N : Nat} {H : Nat → Nat} (h : Nums W g N H) (hb : W'.heap[g]? = W.heap[g]?) : Nums W' g N H := by
  obtain ⟨cur, h1, h2⟩ := h
  exact ⟨cur, hb.trans h1, h2⟩
/-- one number turned -/
def upd (H : Nat → Nat) (i k : Nat) : Nat → Nat := fun j => if j = i then k else H j
theorem Nums.set {W : World} {g N : Nat} {H : Nat → Nat} (h : Nums W g N H) (i k : Nat) : Nums (W.setCell ⟨g, i, none⟩ (.int .i64 k)) g N (upd H i k) := by
  obtain ⟨cur, h1, h2, h3⟩ := h
  refine ⟨cur.setIfInBounds i (.int .i64 k), heap_setCell_same W g i cur 3 _ h1, by simp [h2], fun j hj => ?_⟩
  rw [Array.getElem?_setIfInBounds]
  unfold upd
  by_cases e : i = j
  · subst e
    rw [if_pos rfl, if_pos rfl, if_pos (by omega)]
  · rw [if_neg e, if_neg (fun h => e h.symm)]
    exact h3 j hj
theorem Nums.of_made {W : World} {B g N : Nat} (h : W.ownsRow B 3 1 (.slice (some ⟨g, 0, none⟩) N N) N (madeCells #[Value.int .i64 0] (N * 1)).toList) : Nums W g N (fun _ => 0) := by
  rcases h.2 with ⟨h1, _⟩ | ⟨g', cap, cur, hv, hB, hg, hcap, hm, hs', ht⟩
  · cases h1
  · cases hv
    refine ⟨cur, hg, by omega, fun j hj => ?_⟩
    rw [Nat.mul_one, List.take_of_length_le (by rw [Array.length_toList]; omega), toList_madeCells_one] at ht
    rw [← Array.getElem?_toList, ht, List.getElem?_replicate, if_pos hj]
    rfl
/-- the walk's block -/
def WB (W : World) (Q : Nat) (c0 c1 c2 c3 c4 : Value) : Prop := W.heap[Q]? = some (.cells #[c0, c1, c2, c3, c4] 60)
theorem WB.cells {W : World} {Q : Nat} {c0 c1 c2 c3 c4 : Value} (h : WB W Q c0 c1 c2 c3 c4) : W.cell? ⟨Q, 0, none⟩ = some c0 ∧ W.cell? ⟨Q, 1, none⟩ = some c1 ∧ W.cell? ⟨Q, 2, none⟩ = some c2 ∧ W.cell? ⟨Q, 3, none⟩ = some c3 ∧ W.cell? ⟨Q, 4, none⟩ = some c4 := by unfold WB at h; simp [World.cell?, h]
theorem WB.thawed {W : World} {Q : Nat} {c0 c1 c2 c3 c4 : Value} (h : WB W Q c0 c1 c2 c3 c4) (j : Nat) : W.frozen? ⟨Q, j, none⟩ = false := by unfold WB at h; simp [World.frozen?, h]
theorem WB.lt {W : World} {Q : Nat} {c0 c1 c2 c3 c4 : Value} (h : WB W Q c0 c1 c2 c3 c4) : Q < W.heap.size := (Array.getElem?_eq_some_iff.1 h).1
theorem WB.keep {W W' : World} {Q : Nat} {c0 c1 c2 c3 c4 : Value} (h : WB W Q c0 c1 c2 c3 c4) (hb : W'.heap[Q]? = W.heap[Q]?) : WB W' Q c0 c1 c2 c3 c4 := by unfold WB; rw [hb]; exact h
theorem WB.left {W : World} {Q : Nat} {c0 c1 c2 c3 c4 : Value} (h : WB W Q c0 c1 c2 c3 c4) (v : Value) : WB (W.setCell ⟨Q, 4, none⟩ v) Q c0 c1 c2 c3 v := heap_setCell_same W Q 4 _ 60 _ h
theorem WB.newAt {w : World} {b : Nat} {c0 c1 c2 c3 c4 : Value} (hb : b = w.heap.size) : WB (w.alloc (.cells #[c0, c1, c2, c3, c4] 60)) b c0 c1 c2 c3 c4 := by
  subst hb
  show (w.heap.push _)[w.heap.size]? = _
  exact Array.getElem?_push_size
theorem Try.infoInt : (Try.prog.info? 3).map (fun i => (i.zero, i.size, i.bytes)) = some (some (.int .i64 0), 1, 8) := by kernel_rfl
set_option maxHeartbeats 4000000 in
theorem newWalk_any (g c n first len : Nat) (w : World) (hn : n ≤ 100000) (_hl : len ≤ 100000) :
    Calls Try.prog 32 #[.agg #[.slice (some ⟨g, 0, none⟩) n c, .int .i64 first], .int .i64 len] w fun e w' => ∃ Q Sb : Nat, e = .returned (.pointer (some ⟨Q, 0, none⟩)) ∧ WB w' Q (.slice (some ⟨g, 0, none⟩) n c) (.int .i64 first) (.int .i64 len) (.slice (some ⟨Sb, 0, none⟩) n n) (.slice none 0 0) ∧ Nums w' Sb n (fun _ => 0) ∧ w.heap.size ≤ Q ∧ w.heap.size ≤ Sb ∧ Q ≠ Sb ∧ Below w.heap.size w w' := by
  have HB0 := hidden (Below.refl w.heap.size w)
  go_enter Try.func32, Try.ntmps32
  go_wp2_with fail
  obtain ⟨i0, hi, hz0, hz1, hz2⟩ := info_parts Try.infoInt
  obtain ⟨w1, hrun, hown, hgrow⟩ := run_make_full (P := Try.prog) ((w.alloc (.cells #[.slice (some ⟨g, 0, none⟩) n c, .int .i64 first] 56)).drew) (w.heap.size + 1) 58 3 i0 (.int .i64 0) 1 Try.underlying58 hi hz0 hz1 .i64 .i64 n (by rw [hz2]; omega) (by unfold maxLen; omega) (by simp)
  have hbk := hgrow.block w.heap.size (by simp) (by simp)
  have hT : Two w1 w.heap.size (.slice (some ⟨g, 0, none⟩) n c) (.int .i64 first) 56 := (Two.newAt rfl).keep hbk
  obtain ⟨d0, d1⟩ := hT.cells
  have hS1 := hown.lt _ rfl
  have hsz1 : ((w.alloc (.cells #[.slice (some ⟨g, 0, none⟩) n c, .int .i64 first] 56)).drew).heap.size = w.heap.size + 1 := by simp
  rw [hsz1] at hown hS1
  have HO := hidden (Nums.of_made hown)
  have HG := hidden (show Below w.heap.size w w1 from (by (with_reducible (repeat (first | exact HB0.out | apply bel_alloc | apply bel_put | apply bel_set | apply Below.drew | apply below_drewN | omega))) : Below w.heap.size w _).grown hgrow (by simp) (fun k hk => by cases hk))
  clear hsz1
  clear hT hbk hown hgrow
  go_region
  all_goals
    go_wp2_with fail
    go_ret
    exact ⟨w1.heap.size, rfl, w.heap.size + 1, WB.newAt rfl, HO.out.keep (Below.heap_alloc _ _ _ HO.out.lt), by omega, by omega, by omega, by (with_reducible (repeat (first | exact HG.out | apply bel_alloc | apply bel_put | apply bel_set | apply Below.drew | apply below_drewN | omega)))⟩

/-! a walk under way -/
theorem cell_first (W : World) (v : Value) (t : TypeId) : (W.alloc (.cells #[v] t)).cell? ⟨W.heap.size, 0, none⟩ = some v := by
  have hh : (W.alloc (.cells #[v] t)).heap[W.heap.size]? = some (.cells #[v] t) := by
    show (W.heap.push _)[W.heap.size]? = _
    exact Array.getElem?_push_size
  simp only [World.cell?, hh]
  rfl
theorem owns_keep {w w' : World} {B : Nat} {e : TypeId} {size : Nat} {v : Value} {n : Nat} {xs : List Value} (h : w.ownsRow B e size v n xs) (hb : ∀ k, v.ownBlock = some k → w'.heap[k]? = w.heap[k]?) : w'.ownsRow B e size v n xs := by
  refine ⟨h.1, ?_⟩
  rcases h.2 with hn | ⟨g, cap, cur, rfl, hg, hh, rest⟩
  · exact Or.inl hn
  · exact Or.inr ⟨g, cap, cur, rfl, hg, (hb g rfl).trans hh, rest⟩
structure WK (B Q Sb g c : Nat) (ss : List Sta) (first len : Nat) (lv : Value) (L : List Nat) (H : Nat → Nat) (W : World) : Prop where
  wb : WB W Q (.slice (some ⟨g, 0, none⟩) ss.length c) (.int .i64 first) (.int .i64 len) (.slice (some ⟨Sb, 0, none⟩) ss.length ss.length) lv
  st : W.ownsRow B 67 7 (.slice (some ⟨g, 0, none⟩) ss.length c) ss.length (cells7 ss)
  seen : Nums W Sb ss.length H
  left : W.ownsRow B 3 1 lv L.length (ints L)
  qs : Q ≠ Sb
  qg : Q ≠ g
  sg : Sb ≠ g
  lq : some Q ≠ lv.ownBlock
  ls : some Sb ≠ lv.ownBlock
  lg : some g ≠ lv.ownBlock
/-- nothing has turned but what is the walk's own -/
structure Wg (Q Sb : Nat) (lv lv' : Value) (W W' : World) : Prop where
  os : W'.os = W.os
  tape : W'.tape = W.tape
  output : W'.output = W.output
  size : W.heap.size ≤ W'.heap.size
  same : ∀ k, k < W.heap.size → k ≠ Q → k ≠ Sb → some k ≠ lv.ownBlock → W'.heap[k]? = W.heap[k]?
  own : lv'.ownBlock = lv.ownBlock ∨ ∃ g, lv'.ownBlock = some g ∧ W.heap.size ≤ g
theorem Wg.refl (Q Sb : Nat) (lv : Value) (W : World) : Wg Q Sb lv lv W W := ⟨rfl, rfl, rfl, Nat.le_refl _, fun _ _ _ _ _ => rfl, Or.inl rfl⟩
theorem Wg.trans {Q Sb : Nat} {a b c : Value} {W X Y : World} (h : Wg Q Sb a b W X) (k : Wg Q Sb b c X Y) : Wg Q Sb a c W Y := by
  refine ⟨k.os.trans h.os, k.tape.trans h.tape, k.output.trans h.output, Nat.le_trans h.size k.size, fun i hi h1 h2 h3 => ?_, ?_⟩
  · have hs := h.size
    refine (k.same i (by omega) h1 h2 ?_).trans (h.same i hi h1 h2 h3)
    rcases h.own with e | ⟨g, e, hg⟩
    · rw [e]; exact h3
    · rw [e]; intro e2; cases e2; omega
  · rcases k.own with e | ⟨g, e, hg⟩
    · rw [e]; exact h.own
    · exact Or.inr ⟨g, e, Nat.le_trans h.size hg⟩
theorem Wg.of_below {Q Sb : Nat} {lv : Value} {W X : World} (h : Below W.heap.size W X) : Wg Q Sb lv lv W X := ⟨h.os, h.tape, h.output, h.size, fun k hk _ _ _ => h.block k hk, Or.inl rfl⟩
theorem WK.keep {B Q Sb g c : Nat} {ss : List Sta} {first len : Nat} {lv : Value} {L : List Nat} {H : Nat → Nat} {W W' : World} (h : WK B Q Sb g c ss first len lv L H W) (h1 : W'.heap[Q]? = W.heap[Q]?) (h2 : W'.heap[g]? = W.heap[g]?) (h3 : W'.heap[Sb]? = W.heap[Sb]?) (h4 : ∀ k, lv.ownBlock = some k → W'.heap[k]? = W.heap[k]?) : WK B Q Sb g c ss first len lv L H W' :=
  ⟨h.wb.keep h1, owns_keep h.st (fun k e => by cases e; exact h2), h.seen.keep h3, owns_keep h.left h4, h.qs, h.qg, h.sg, h.lq, h.ls, h.lg⟩
theorem WK.later {B Q Sb g c : Nat} {ss : List Sta} {first len : Nat} {lv : Value} {L : List Nat} {H : Nat → Nat} {W W' : World} (h : WK B Q Sb g c ss first len lv L H W) (hb : Below W.heap.size W W') : WK B Q Sb g c ss first len lv L H W' :=
  h.keep (hb.block _ h.wb.lt) (hb.block _ (h.st.lt g rfl).2) (hb.block _ h.seen.lt) (fun k e => hb.block k (h.left.lt k e).2)
/-- 'append' of one number -/
theorem run_append_int {w : World} {ty : TypeId} (B b : Nat) (lv : Value) (L : List Nat) (i : Nat) (hown : w.ownsRow B 3 1 lv L.length (ints L)) (hcell : w.cell? ⟨b, 0, none⟩ = some (.int .i64 i)) (hlen : L.length < 1048576) (hB : B ≤ w.heap.size) :
    ∃ g c w', (Builtin.append_ #[58, 58] ty #[lv, .slice (some ⟨b, 0, none⟩) 1 1]).run Try.prog w = .ok (.slice (some ⟨g, 0, none⟩) (L.length + 1) c) w' ∧ w'.ownsRow B 3 1 (.slice (some ⟨g, 0, none⟩) (L.length + 1) c) (L.length + 1) (ints (L ++ [i])) ∧ w.grownBy w' lv.ownBlock ∧ (some g = lv.ownBlock ∨ w.heap.size ≤ g) := by
  obtain ⟨i0, hi, hz0, hz1, hz2⟩ := info_parts Try.infoInt
  obtain ⟨v', w', hr, h2, h3, _, h5⟩ := run_append_own_at (P := Try.prog) w B 58 ty 3 i0 (.int .i64 0) 1 8 Try.underlying58 hi hz0 hz1 hz2 rfl (by decide) lv L.length (ints L) hown ⟨b, 0, none⟩ 1 1 [.int .i64 i] rfl (by
    intro j u hj
    cases j with
    | zero => simp at hj; subst hj; exact hcell
    | succ j => simp at hj) (by simp [Value.oneCell']) (by unfold maxLen; omega) (by omega) hB
  obtain ⟨g, c, rfl⟩ : ∃ g c, v' = .slice (some ⟨g, 0, none⟩) (L.length + 1) c := by
    rcases h2.2 with ⟨_, h0⟩ | ⟨g, cap, _, rfl, _⟩
    · omega
    · exact ⟨g, cap, rfl⟩
  refine ⟨g, c, w', hr, ?_, h3, ?_⟩
  · rw [show ints (L ++ [i]) = ints L ++ [.int .i64 i] from by simp [ints]]; exact h2
  · rcases h5 with h5 | h5
    · exact Or.inl h5
    · right
      have : g = w.heap.size := by simpa [Value.ownBlock] using h5
      omega
theorem wpList_append_int (w : World) {ops : Array Oper} {rest : List Oper} {o : Oper} {a : Act} {Q : Exit → Act → World → Prop} (hw : Region.wanted o (yielded ops a.tmps) = true) (s x : Operand)
    (ho : o.op = .call { callee := .builtin .append, args := #[s, x], argTypes := #[58, 58] }) (B b : Nat) (lv : Value) (L : List Nat) (i : Nat) (hs : a.eval s = lv) (hx : a.eval x = .slice (some ⟨b, 0, none⟩) 1 1)
    (hown : w.ownsRow B 3 1 lv L.length (ints L)) (hcell : w.cell? ⟨b, 0, none⟩ = some (.int .i64 i)) (hlen : L.length < 1048576) (hB : B ≤ w.heap.size)
    (h : ∀ g c w', w'.ownsRow B 3 1 (.slice (some ⟨g, 0, none⟩) (L.length + 1) c) (L.length + 1) (ints (L ++ [i])) → w.grownBy w' lv.ownBlock → (some g = lv.ownBlock ∨ w.heap.size ≤ g) → wpList Try.prog ops Q rest (a.put o.dst (.slice (some ⟨g, 0, none⟩) (L.length + 1) c)) w') : wpList Try.prog ops Q (o :: rest) a w := by
  refine BigFrame.wpList_want hw fun _ hK => ?_
  obtain ⟨g, c, w', hr, h1, h2, h3⟩ := run_append_int (ty := o.type) B b lv L i hown hcell hlen hB
  unfold Oper.wp execOp
  simp only [ho, resolve, invoke, builtin, Sem.run_bind, Sem.run_pure, Result.andThen_ok, List.map_toArray, List.map_cons, List.map_nil, hs, hx, hr]
  exact hK _ _ (h g c w' h1 h2 h3)
/-- a state laid by -/
theorem WK.push {B Q Sb g c : Nat} {ss : List Sta} {first len : Nat} {lv : Value} {L : List Nat} {H : Nat → Nat} {W w1 w2 : World} {i k g9 c9 : Nat} (h : WK B Q Sb g c ss first len lv L H W) (hb : Below W.heap.size (W.setCell ⟨Sb, i, none⟩ (.int .i64 k)) w1) (hown : w2.ownsRow B 3 1 (.slice (some ⟨g9, 0, none⟩) (L.length + 1) c9) (L.length + 1) (ints (L ++ [i]))) (hg : w1.grownBy w2 lv.ownBlock) (hl : some g9 = lv.ownBlock ∨ w1.heap.size ≤ g9) :
    WK B Q Sb g c ss first len (.slice (some ⟨g9, 0, none⟩) (L.length + 1) c9) (L ++ [i]) (upd H i k) (w2.setCell ⟨Q, 4, none⟩ (.slice (some ⟨g9, 0, none⟩) (L.length + 1) c9)) ∧ Wg Q Sb lv (.slice (some ⟨g9, 0, none⟩) (L.length + 1) c9) W (w2.setCell ⟨Q, 4, none⟩ (.slice (some ⟨g9, 0, none⟩) (L.length + 1) c9)) := by
  have hQ := h.wb.lt
  have hS := h.seen.lt
  have hgl := (h.st.lt g rfl).2
  have hs1 : W.heap.size ≤ w1.heap.size := by have := hb.size; simpa [World.setCell] using this
  have hs2 := hg.size
  have n1 : g9 ≠ Q := fun e => by
    subst e
    rcases hl with hl | hl
    · exact h.lq hl
    · omega
  have n2 : g9 ≠ Sb := fun e => by
    subst e
    rcases hl with hl | hl
    · exact h.ls hl
    · omega
  have n3 : g9 ≠ g := fun e => by
    subst e
    rcases hl with hl | hl
    · exact h.lg hl
    · omega
  have kp : ∀ q, q < W.heap.size → q ≠ Sb → some q ≠ lv.ownBlock → w2.heap[q]? = W.heap[q]? := fun q hq h1 h2 => by
    rw [hg.block q (by omega) h2, hb.block q hq, heap_setCell_other W ⟨Sb, i, none⟩ q _ h1]
  have ks : w2.heap[Sb]? = (W.setCell ⟨Sb, i, none⟩ (.int .i64 k)).heap[Sb]? := by
    rw [hg.block Sb (by omega) h.ls, hb.block Sb hS]
  refine ⟨⟨WB.left (h.wb.keep (kp Q hQ h.qs h.lq)) _, ?_, ?_, ?_, h.qs, h.qg, h.sg, ?_, ?_, ?_⟩, ⟨?_, ?_, ?_, ?_, ?_, ?_⟩⟩
  · exact owns_keep h.st (fun q e => by
      cases e
      rw [heap_setCell_other w2 ⟨Q, 4, none⟩ g _ h.qg.symm]
      exact kp g hgl h.sg.symm h.lg)
  · exact ((h.seen.set i k).keep ks).keep (heap_setCell_other w2 ⟨Q, 4, none⟩ Sb _ h.qs.symm)
  · rw [List.length_append]
    exact owns_keep hown (fun q e => by cases e; exact heap_setCell_other w2 ⟨Q, 4, none⟩ g9 _ n1)
  · intro e; cases e; exact n1 rfl
  · intro e; cases e; exact n2 rfl
  · intro e; cases e; exact n3 rfl
  · exact hg.os.trans hb.os
  · exact hg.tape.trans hb.tape
  · exact hg.output.trans hb.output
  · simp only [World.setCell, Array.size_modify]; omega
  · intro q hq h1 h2 h3
    rw [heap_setCell_other w2 ⟨Q, 4, none⟩ q _ h1]
    exact kp q hq h2 h3
  · rcases hl with hl | hl
    · exact Or.inl hl
    · exact Or.inr ⟨g9, rfl, by omega⟩
/-- what is left, and what is seen, behind a reaching -/
def rchL (at_ : Nat) (H : Nat → Nat) (L : List Nat) (i : Nat) : List Nat := if H i ≤ at_ then L ++ [i] else L
def rchH (at_ : Nat) (H : Nat → Nat) (i : Nat) : Nat → Nat := if H i ≤ at_ then upd H i (at_ + 1) else H

set_option maxHeartbeats 4000000 in
theorem reachW_any (B Q Sb g c : Nat) (ss : List Sta) (first len : Nat) (lv : Value) (L : List Nat) (H : Nat → Nat) (i at_ : Nat) (w : World) (h : WK B Q Sb g c ss first len lv L H w) (hi : i < ss.length) (hL : L.length < 1048576) (hB : B ≤ w.heap.size) (hat : at_ ≤ 100000) (_hss : ss.length ≤ 100000) :
    Calls Try.prog 45 #[.pointer (some ⟨Q, 0, none⟩), .int .i64 i, .int .i64 at_] w fun e w' => ∃ lv', (∃ v, e = .returned v) ∧ WK B Q Sb g c ss first len lv' (rchL at_ H L i) (rchH at_ H i) w' ∧ Wg Q Sb lv lv' w w' := by
  have HK := hidden h
  obtain ⟨q0, q1, q2, q3, q4⟩ := h.wb.cells
  have qf := h.wb.thawed 4
  have ql := h.wb.lt
  have s0 := h.seen.cell hi
  have sf := h.seen.thawed i
  have sl := h.seen.lt
  have hii : (i : Int) < ss.length := by omega
  have hqs := h.qs
  have hqs' := h.qs.symm
  clear h
  by_cases hs : H i ≤ at_
  · have hsi : ((H i : Nat) : Int) ≤ at_ := by omega
    have HE := hidden (And.intro (show rchL at_ H L i = L ++ [i] from if_pos hs) (show rchH at_ H i = upd H i (at_ + 1) from if_pos hs))
    clear hs
    go_enter Try.func45, Try.ntmps45
    go_upto_region 2 with fail
    have hwa : (w.setCell ⟨Sb, i, none⟩ (.int .i64 ((at_ : Int) + 1))).heap.size = w.heap.size := by simp [World.setCell]
    generalize hW1 : World.setCell _ _ _ = W1
    rw [hW1] at hwa
    have hQ1 : W1.heap[Q]? = w.heap[Q]? := by rw [← hW1]; exact heap_setCell_other w ⟨Sb, i, none⟩ Q _ hqs
    have HL1 := hidden (show W1.ownsRow B 3 1 lv L.length (ints L) from owns_keep HK.out.left (fun k e => by rw [← hW1]; exact heap_setCell_other w ⟨Sb, i, none⟩ k _ (fun e2 => HK.out.ls (by rw [← show k = Sb from e2]; exact e.symm))))
    have HW1 := hidden (show w.setCell ⟨Sb, i, none⟩ (.int .i64 ((at_ + 1 : Nat) : Int)) = W1 from hW1)
    have HQ1 := hidden (HK.out.wb.keep hQ1)
    obtain ⟨q0, q1, q2, q3, q4⟩ := HQ1.out.cells
    have ql1 := HQ1.out.lt
    have hB1 : B ≤ W1.heap.size := by omega
    have HWA := hidden hwa
    clear hQ1 hW1 s0 sf qf hwa ql sl
    go_wp2_with (at_builtin; go_must (refine wpList_append_int _ (by go_simp) (.tmp 27) (.tmp 29) rfl B W1.heap.size lv L i rfl rfl (owns_keep HL1.out (fun k e => Below.heap_alloc _ _ _ (HL1.out.lt k e).2)) (cell_first _ _ _) hL (by simp; omega) ?_; intro g9 c9 w9 hown9 hg9 hl9; have hbQ : w9.heap[Q]? = W1.heap[Q]? := (hg9.block Q (by simp; omega) HK.out.lq).trans (Below.heap_alloc _ _ _ ql1); have cc9 := (HQ1.out.keep hbQ).cells.2.2.2.2; have ff9 := (HQ1.out.keep hbQ).thawed 4))
    have HP := hidden (HK.out.push (k := at_ + 1) (w1 := W1.alloc (.cells #[.int .i64 i] 3)) (by rw [HW1.out, ← HWA.out]; exact (Below.refl _ W1).alloc (Nat.le_refl _) _) hown9 hg9 hl9)
    clear hown9 hg9 hl9
    go_wp2_with fail
    go_end0
    exact ⟨_, ⟨_, rfl⟩, by rw [HE.out.1, HE.out.2]; exact HP.out.1, HP.out.2⟩
  · have hsi : ¬ ((H i : Nat) : Int) ≤ at_ := by omega
    have HE := hidden (And.intro (show rchL at_ H L i = L from if_neg hs) (show rchH at_ H i = H from if_neg hs))
    clear hs
    go_enter Try.func45, Try.ntmps45
    go_wp2_with fail
    go_end0
    exact ⟨⟨_, rfl⟩, lv, by rw [HE.out.1, HE.out.2]; exact HK.out, Wg.refl Q Sb lv w⟩

theorem owns7_cell {W : World} {B g n c : Nat} {ss : List Sta} {i : Nat} {t : Sta} (h : W.ownsRow B 67 7 (.slice (some ⟨g, 0, none⟩) n c) ss.length (cells7 ss)) (ht : ss[i]? = some t) (k : Nat) (hk : k < 7) (u : Value) (hu : (flat7 t)[k]? = some u) : W.cell? ⟨g, i * 7 + k, none⟩ = some u := by
  have h1 := cells7_at ss i k t ht hk
  have h2 := h.cells (g := g) rfl (i * 7 + k) u (by rw [h1]; exact hu)
  have h3 : (⟨g, 0, none⟩ : Addr).add (i * 7 + k) = ⟨g, i * 7 + k, none⟩ := by
    unfold Addr.add
    split <;> simp_all
  rw [h3] at h2
  exact h2
/-- all the cells of a state -/
theorem WK.sta {B Q Sb g c : Nat} {ss : List Sta} {first len : Nat} {lv : Value} {L : List Nat} {H : Nat → Nat} {W : World} (h : WK B Q Sb g c ss first len lv L H W) {i k n o : Nat} {f : Bs} (ht : ss[i]? = some ⟨k, f, n, o⟩) :
    W.cell? ⟨g, i * 7, none⟩ = some (.int .i64 k) ∧ W.cell? ⟨g, i * 7 + 1, none⟩ = some (.int .u64 (word f 0)) ∧ W.cell? ⟨g, i * 7 + 2, none⟩ = some (.int .u64 (word f 1)) ∧ W.cell? ⟨g, i * 7 + 3, none⟩ = some (.int .u64 (word f 2)) ∧ W.cell? ⟨g, i * 7 + 4, none⟩ = some (.int .u64 (word f 3)) ∧ W.cell? ⟨g, i * 7 + 5, none⟩ = some (.int .i64 n) ∧ W.cell? ⟨g, i * 7 + 6, none⟩ = some (.int .i64 o) :=
  ⟨owns7_cell h.st ht 0 (by decide) _ rfl, owns7_cell h.st ht 1 (by decide) _ rfl, owns7_cell h.st ht 2 (by decide) _ rfl, owns7_cell h.st ht 3 (by decide) _ rfl, owns7_cell h.st ht 4 (by decide) _ rfl, owns7_cell h.st ht 5 (by decide) _ rfl, owns7_cell h.st ht 6 (by decide) _ rfl⟩
theorem rchL_len (at_ : Nat) (H : Nat → Nat) (L : List Nat) (i : Nat) : (rchL at_ H L i).length ≤ L.length + 1 := by
  unfold rchL
  split
  · simp
  · omega
/-- what is left and seen behind a state's going on -/
def goL (at_ len : Nat) (t : Sta) (H : Nat → Nat) (L : List Nat) : List Nat :=
  if t.kind = 1 then rchL at_ (rchH at_ H t.next) (rchL at_ H L t.next) t.other else if (t.kind = 3 ∧ at_ = 0) ∨ (t.kind = 4 ∧ at_ = len) then rchL at_ H L t.next else L
def goH (at_ len : Nat) (t : Sta) (H : Nat → Nat) : Nat → Nat :=
  if t.kind = 1 then rchH at_ (rchH at_ H t.next) t.other else if (t.kind = 3 ∧ at_ = 0) ∨ (t.kind = 4 ∧ at_ = len) then rchH at_ H t.next else H

set_option maxHeartbeats 4000000 in
theorem goOn_any (B Q Sb g c : Nat) (ss : List Sta) (first len : Nat) (lv : Value) (L : List Nat) (H : Nat → Nat) (i at_ : Nat) (t : Sta) (w : World) (h : WK B Q Sb g c ss first len lv L H w) (ht : ss[i]? = some t) (htk : t.kind ≤ 4) (hn : t.next < ss.length) (ho : t.other < ss.length) (hL : L.length < 1000000) (hB : B ≤ w.heap.size) (hat : at_ ≤ 100000) (hss : ss.length ≤ 100000) (hle : len ≤ 100000) :
    Calls Try.prog 46 #[.pointer (some ⟨Q, 0, none⟩), .int .i64 i, .int .i64 at_] w fun e w' => ∃ lv', (∃ v, e = .returned v) ∧ WK B Q Sb g c ss first len lv' (goL at_ len t H L) (goH at_ len t H) w' ∧ Wg Q Sb lv lv' w w' := by
  obtain ⟨k, f, n, o⟩ := t
  have HK := hidden h
  obtain ⟨q0, q1, q2, q3, q4⟩ := h.wb.cells
  have ql := h.wb.lt
  obtain ⟨s0, s1, s2, s3, s4, s5, s6⟩ := h.sta ht
  have hi := (List.getElem?_eq_some_iff.1 ht).1
  have hii : (i : Int) < ss.length := by omega
  have gl := (h.st.lt g rfl).2
  have HT := hidden ht
  clear h ht
  simp only at htk hn ho
  have hk : k = 1 ∨ k = 3 ∨ k = 4 ∨ k = 0 ∨ k = 2 := by omega
  rcases hk with rfl | rfl | rfl | hk
  · have HE := hidden (And.intro (show goL at_ len ⟨1, f, n, o⟩ H L = rchL at_ (rchH at_ H n) (rchL at_ H L n) o from if_pos rfl) (show goH at_ len ⟨1, f, n, o⟩ H = rchH at_ (rchH at_ H n) o from if_pos rfl))
    go_enter Try.func46, Try.ntmps46
    go_wp2_with fail
    refine (reachW_any B Q Sb g c ss first len lv L H n at_ _ HK.out hn (by omega) hB hat hss).mono ?_
    rintro e w1 ⟨lv1, ⟨v1, rfl⟩, hK1, hg1⟩
    obtain ⟨s0, s1, s2, s3, s4, s5, s6⟩ := hK1.sta HT.out
    have gl1 := (hK1.st.lt g rfl).2
    have HK1 := hidden hK1
    have HG1 := hidden hg1
    have hB1 : B ≤ w1.heap.size := by have := hg1.size; omega
    have hl1 := rchL_len at_ H L n
    clear hK1 hg1
    go_wp2_with fail
    refine (reachW_any B Q Sb g c ss first len lv1 _ _ o at_ _ HK1.out ho (by omega) hB1 hat hss).mono ?_
    rintro e w2 ⟨lv2, ⟨v2, rfl⟩, hK2, hg2⟩
    have HK2 := hidden (And.intro hK2 (HG1.out.trans hg2))
    clear hK2 hg2
    go_wp2_with fail
    go_end0
    exact ⟨lv2, ⟨_, rfl⟩, by rw [HE.out.1, HE.out.2]; exact HK2.out.1, HK2.out.2⟩
  · by_cases ha : at_ = 0
    · subst ha
      have HE := hidden (And.intro (show goL 0 len ⟨3, f, n, o⟩ H L = rchL 0 H L n from by simp [goL]) (show goH 0 len ⟨3, f, n, o⟩ H = rchH 0 H n from by simp [goH]))
      go_enter Try.func46, Try.ntmps46
      go_wp2_with fail
      refine (reachW_any B Q Sb g c ss first len lv L H n 0 _ HK.out hn (by omega) hB hat hss).mono ?_
      rintro e w1 ⟨lv1, ⟨v1, rfl⟩, hK1, hg1⟩
      have HK2 := hidden (And.intro hK1 hg1)
      clear hK1 hg1
      go_wp2_with fail
      go_end0
      exact ⟨lv1, ⟨_, rfl⟩, by rw [HE.out.1, HE.out.2]; exact HK2.out.1, HK2.out.2⟩
    · have HE := hidden (And.intro (show goL at_ len ⟨3, f, n, o⟩ H L = L from by simp [goL, ha]) (show goH at_ len ⟨3, f, n, o⟩ H = H from by simp [goH, ha]))
      have hai : ¬ (at_ : Int) = 0 := by omega
      go_enter Try.func46, Try.ntmps46
      go_wp2_with fail
      go_end0
      exact ⟨lv, ⟨_, rfl⟩, by rw [HE.out.1, HE.out.2]; exact HK.out, Wg.refl Q Sb lv w⟩
  · by_cases ha : at_ = len
    · subst ha
      have HE := hidden (And.intro (show goL at_ at_ ⟨4, f, n, o⟩ H L = rchL at_ H L n from by simp [goL]) (show goH at_ at_ ⟨4, f, n, o⟩ H = rchH at_ H n from by simp [goH]))
      go_enter Try.func46, Try.ntmps46
      go_wp2_with fail
      refine (reachW_any B Q Sb g c ss first at_ lv L H n at_ _ HK.out hn (by omega) hB hat hss).mono ?_
      rintro e w1 ⟨lv1, ⟨v1, rfl⟩, hK1, hg1⟩
      have HK2 := hidden (And.intro hK1 hg1)
      clear hK1 hg1
      go_wp2_with fail
      go_end0
      exact ⟨lv1, ⟨_, rfl⟩, by rw [HE.out.1, HE.out.2]; exact HK2.out.1, HK2.out.2⟩
    · have HE := hidden (And.intro (show goL at_ len ⟨4, f, n, o⟩ H L = L from by simp [goL, ha]) (show goH at_ len ⟨4, f, n, o⟩ H = H from by simp [goH, ha]))
      have hai : ¬ (at_ : Int) = len := by omega
      go_enter Try.func46, Try.ntmps46
      go_wp2_with fail
      go_end0
      exact ⟨lv, ⟨_, rfl⟩, by rw [HE.out.1, HE.out.2]; exact HK.out, Wg.refl Q Sb lv w⟩
  · have h1 : ¬ k = 1 := by omega
    have h3 : ¬ k = 3 := by omega
    have h4 : ¬ k = 4 := by omega
    have HE := hidden (And.intro (show goL at_ len ⟨k, f, n, o⟩ H L = L from by simp [goL, h1, h3, h4]) (show goH at_ len ⟨k, f, n, o⟩ H = H from by simp [goH, h1, h3, h4]))
    rcases hk with rfl | rfl
    all_goals
      go_enter Try.func46, Try.ntmps46
      go_wp2_with fail
      go_end0
      exact ⟨lv, ⟨_, rfl⟩, by rw [HE.out.1, HE.out.2]; exact HK.out, Wg.refl Q Sb lv w⟩

end Go.Proofs.Ytjlihidmohokhaa
