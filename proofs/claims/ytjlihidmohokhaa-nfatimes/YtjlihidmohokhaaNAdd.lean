/-
  A machine of states in memory, and a state that is added to it; condition: how many states there are.
-/
import Derived.Test.YtjlihidmohokhaaNMach
import Derived.Test.YtjlihidmohokhaaKBase
import Derived.Deep.RegionLaw
import Derived.BigRegion
namespace Go.Proofs.Ytjlihidmohokhaa
open Go.RowKit Go.Proofs.Ytjlihidmohokhaa.Gl

theorem Try.infoSta : (Try.prog.info? 67).map (fun i => (i.zero, i.size, i.bytes)) = some (some (.agg #[.int .i64 0, .int .u64 0, .int .u64 0, .int .u64 0, .int .u64 0, .int .i64 0, .int .i64 0]), 7, 56) := by kernel_rfl
/-- a state's cells -/
def flat7 (t : Sta) : List Value := [.int .i64 t.kind, .int .u64 (word t.set 0), .int .u64 (word t.set 1), .int .u64 (word t.set 2), .int .u64 (word t.set 3), .int .i64 t.next, .int .i64 t.other]
def cells7 : List Sta → List Value
  | [] => []
  | t :: l => flat7 t ++ cells7 l
theorem cells7_app (a b : List Sta) : cells7 (a ++ b) = cells7 a ++ cells7 b := by
  induction a with
  | nil => rfl
  | cons v l ih => simp [cells7, ih]
theorem cells7_len (l : List Sta) : (cells7 l).length = l.length * 7 := by
  induction l with
  | nil => rfl
  | cons v l ih => simp [cells7, flat7, ih]; omega
theorem cells7_at (l : List Sta) : ∀ (j i : Nat) (t : Sta), l[j]? = some t → i < 7 → (cells7 l)[j * 7 + i]? = (flat7 t)[i]? := by
  induction l with
  | nil => intro j i v hj; simp at hj
  | cons x l ih =>
    intro j i v hj hi
    have h1 : (flat7 x).length = 7 := rfl
    cases j with
    | zero =>
      simp at hj
      subst hj
      rw [cells7, Nat.zero_mul, Nat.zero_add, List.getElem?_append_left (by omega)]
    | succ j =>
      rw [cells7, List.getElem?_append_right (by omega), h1, show (j + 1) * 7 + i - 7 = j * 7 + i by omega]
      exact ih j i v (by simpa using hj) hi
theorem flat7_one (t : Sta) : ∀ u ∈ flat7 t, u.oneCell' = true := by
  intro u hu
  simp [flat7] at hu
  rcases hu with rfl | rfl | rfl | rfl | rfl | rfl | rfl <;> rfl

/-- a machine lies in memory: its block, and the row of its states from block B on -/
structure MAt (W : World) (P B : Nat) (mv : Value) (ss : List Sta) : Prop where
  blk : W.heap[P]? = some (.cells #[mv, .int .i64 0] 56)
  own : W.ownsRow B 67 7 mv ss.length (cells7 ss)
  lt : P < B
theorem MAt.ne {W : World} {P B : Nat} {mv : Value} {ss : List Sta} (h : MAt W P B mv ss) : some P ≠ mv.ownBlock := fun e => by
  have := (h.own.lt P e.symm).1
  have := h.lt
  omega
theorem MAt.plt {W : World} {P B : Nat} {mv : Value} {ss : List Sta} (h : MAt W P B mv ss) : P < W.heap.size := (Array.getElem?_eq_some_iff.1 h.blk).1
/-- nothing has turned but what is the machine's own -/
structure Mg (P : Nat) (mv mv' : Value) (W W' : World) : Prop where
  os : W'.os = W.os
  tape : W'.tape = W.tape
  output : W'.output = W.output
  size : W.heap.size ≤ W'.heap.size
  same : ∀ k, k < W.heap.size → k ≠ P → some k ≠ mv.ownBlock → W'.heap[k]? = W.heap[k]?
  own : mv'.ownBlock = mv.ownBlock ∨ ∃ g, mv'.ownBlock = some g ∧ W.heap.size ≤ g
theorem Mg.refl (P : Nat) (mv : Value) (W : World) : Mg P mv mv W W := ⟨rfl, rfl, rfl, Nat.le_refl _, fun _ _ _ _ => rfl, Or.inl rfl⟩
theorem Mg.trans {P : Nat} {a b c : Value} {W X Y : World} (h : Mg P a b W X) (k : Mg P b c X Y) : Mg P a c W Y := by
  refine ⟨k.os.trans h.os, k.tape.trans h.tape, k.output.trans h.output, Nat.le_trans h.size k.size, fun i hi h1 h2 => ?_, ?_⟩
  · have hs := h.size
    refine (k.same i (by omega) h1 ?_).trans (h.same i hi h1 h2)
    rcases h.own with e | ⟨g, e, hg⟩
    · rw [e]; exact h2
    · rw [e]; intro e2; cases e2; omega
  · rcases k.own with e | ⟨g, e, hg⟩
    · rw [e]; exact h.own
    · exact Or.inr ⟨g, e, Nat.le_trans h.size hg⟩
theorem Mg.of_below {P : Nat} {mv : Value} {W X : World} (h : Below W.heap.size W X) : Mg P mv mv W X := ⟨h.os, h.tape, h.output, h.size, fun k hk _ _ => h.block k hk, Or.inl rfl⟩
theorem Mg.below {P B : Nat} {mv mv' : Value} {ss : List Sta} {W X : World} (h : Mg P mv mv' W X) (hm : MAt W P B mv ss) : Below P W X := by
  refine ⟨h.os, h.tape, h.output, h.size, fun k hk => h.same k (by have := hm.plt; omega) (by omega) fun e => ?_⟩
  have := (hm.own.lt k e.symm).1
  have := hm.lt
  omega
theorem MAt.later {W W' : World} {P B : Nat} {mv : Value} {ss : List Sta} (h : MAt W P B mv ss) (hb : Below W.heap.size W W') : MAt W' P B mv ss := by
  refine ⟨(hb.block P h.plt).trans h.blk, ⟨h.own.1, ?_⟩, h.lt⟩
  rcases h.own.2 with hn | ⟨g, cap, cur, hv, hg, hh, rest⟩
  · exact Or.inl hn
  · exact Or.inr ⟨g, cap, cur, hv, hg, by rw [hb.block g (Array.getElem?_eq_some_iff.1 hh).1]; exact hh, rest⟩
theorem seven_new (W : World) (t : Sta) (b : Nat) (hb : b = W.heap.size) (ty : TypeId) : ∀ j u, (flat7 t)[j]? = some u → (W.alloc (.cells (flat7 t).toArray ty)).cell? ((⟨b, 0, none⟩ : Addr).add j) = some u := by
  intro j u h
  subst hb
  have h3 : (⟨W.heap.size, 0, none⟩ : Addr).add j = ⟨W.heap.size, j, none⟩ := by
    unfold Addr.add
    split <;> simp_all
  have hh : (W.alloc (.cells (flat7 t).toArray ty)).heap[W.heap.size]? = some (.cells (flat7 t).toArray ty) := by
    show (W.heap.push _)[W.heap.size]? = _
    exact Array.getElem?_push_size
  rw [h3]
  simp only [World.cell?, hh]
  simpa using h
/-- 'append' of one state, as a step of a region that draws -/
theorem step_append_sta {ops : Array Oper} {o : Oper} {a : Act} {w : World} {K : Act → World → Prop} {Q : Exit → Act → World → Prop} {E : Prop}
    (hg : o.guard = none) (s x : Operand) (hop : o.op = Op.call { callee := Callee.builtin Builtin.append, args := #[s, x], argTypes := #[54, 54] })
    (P B b : Nat) (mv : Value) (ss : List Sta) (t : Sta) (hs : a.eval s = mv) (hx : a.eval x = .slice (some ⟨b, 0, none⟩) 1 1)
    (hm : MAt w P B mv ss) (hcell : ∀ j u, (flat7 t)[j]? = some u → w.cell? ((⟨b, 0, none⟩ : Addr).add j) = some u) (hlen : ss.length < 1048576) (hB : B ≤ w.heap.size)
    (hK : ∀ g c w', w'.ownsRow B 67 7 (.slice (some ⟨g, 0, none⟩) (ss.length + 1) c) (ss.length + 1) (cells7 (ss ++ [t])) → w.grownBy w' mv.ownBlock → (some g = mv.ownBlock ∨ w.heap.size ≤ g) → w'.heap[P]? = some (.cells #[mv, .int .i64 0] 56) → K (a.put o.dst (.slice (some ⟨g, 0, none⟩) (ss.length + 1) c)) w') :
    if Region.wanted o (yielded ops a.tmps) = true then Oper.wp Try.prog o a w K Q else E := by
  have hw : Region.wanted o (yielded ops a.tmps) = true := by simp [Region.wanted, hg]
  rw [if_pos hw]
  obtain ⟨i0, hi, hz0, hz1, hz2⟩ := info_parts Try.infoSta
  obtain ⟨v', w', hr, h2, h3, _, h5⟩ := run_append_own_at (P := Try.prog) w B 54 o.type 67 i0 (.agg #[.int .i64 0, .int .u64 0, .int .u64 0, .int .u64 0, .int .u64 0, .int .i64 0, .int .i64 0]) 7 56 Try.underlying54 hi hz0 hz1 hz2 rfl (by decide) mv ss.length (cells7 ss) hm.own ⟨b, 0, none⟩ 1 1 (flat7 t) rfl hcell (flat7_one t) (by unfold maxLen; omega) (by omega) hB
  have hP : w'.heap[P]? = some (.cells #[mv, .int .i64 0] 56) := (h3.block P hm.plt hm.ne).trans hm.blk
  obtain ⟨g, c, rfl⟩ : ∃ g c, v' = .slice (some ⟨g, 0, none⟩) (ss.length + 1) c := by
    rcases h2.2 with ⟨_, h0⟩ | ⟨g, cap, _, rfl, _⟩
    · omega
    · exact ⟨g, cap, rfl⟩
  unfold Oper.wp execOp
  simp only [hop, resolve, invoke, builtin, Sem.run_bind, Sem.run_pure, Result.andThen_ok, List.map_toArray, List.map_cons, List.map_nil, hs, hx, hr]
  refine hK g c w' ?_ h3 ?_ hP
  · rw [cells7_app, show cells7 [t] = flat7 t from by simp [cells7]]; exact h2
  · rcases h5 with h5 | h5
    · exact Or.inl h5
    · right
      have : g = w.heap.size := by simpa [Value.ownBlock] using h5
      omega

/-- the machine's block is given the longer row -/
theorem added {W w1 w2 : World} {P B g c : Nat} {mv : Value} {ss : List Sta} {t : Sta} (hm : MAt W P B mv ss) (hb : Below W.heap.size W w1) (hown : w2.ownsRow B 67 7 (.slice (some ⟨g, 0, none⟩) (ss.length + 1) c) (ss.length + 1) (cells7 (ss ++ [t]))) (hg : w1.grownBy w2 mv.ownBlock) (hl : some g = mv.ownBlock ∨ w1.heap.size ≤ g) (hP : w2.heap[P]? = some (.cells #[mv, .int .i64 0] 56)) :
    MAt (w2.setCell ⟨P, 0, none⟩ (.slice (some ⟨g, 0, none⟩) (ss.length + 1) c)) P B (.slice (some ⟨g, 0, none⟩) (ss.length + 1) c) (ss ++ [t]) ∧ Mg P mv (.slice (some ⟨g, 0, none⟩) (ss.length + 1) c) W (w2.setCell ⟨P, 0, none⟩ (.slice (some ⟨g, 0, none⟩) (ss.length + 1) c)) := by
  have hlt := hm.lt
  have hs1 := hb.size
  have hgB : B ≤ g := (hown.lt g rfl).1
  refine ⟨⟨heap_setCell_same w2 P 0 _ 56 _ hP, ?_, hm.lt⟩, ?_⟩
  · rw [List.length_append]
    exact ownsRow_setCell_below hown (a := ⟨P, 0, none⟩) hm.lt _
  · refine ⟨hg.os.trans hb.os, hg.tape.trans hb.tape, hg.output.trans hb.output, ?_, fun k hk h1 h2 => ?_, ?_⟩
    · have := hg.size
      simp only [World.setCell, Array.size_modify]
      omega
    · rw [heap_setCell_other w2 ⟨P, 0, none⟩ k _ h1, hg.block k (by omega) h2, hb.block k hk]
    · rcases hl with hl | hl
      · exact Or.inl hl
      · exact Or.inr ⟨g, rfl, by omega⟩

set_option maxHeartbeats 4000000 in
theorem add_any (t : Sta) (P B : Nat) (mv : Value) (ss : List Sta) (w : World) (hm : MAt w P B mv ss) (hlen : ss.length < 1048576) (hB : B ≤ w.heap.size) :
    Calls Try.prog 43 #[.pointer (some ⟨P, 0, none⟩), .agg #[.int .i64 t.kind, .int .u64 (word t.set 0), .int .u64 (word t.set 1), .int .u64 (word t.set 2), .int .u64 (word t.set 3), .int .i64 t.next, .int .i64 t.other]] w fun e w' => ∃ mv', e = .returned (.int .i64 ss.length) ∧ MAt w' P B mv' (ss ++ [t]) ∧ Mg P mv mv' w w' := by
  have HM := hidden hm
  have hP := hm.plt
  have c0 : w.cell? ⟨P, 0, none⟩ = some mv := by simp [World.cell?, hm.blk]
  have f0 : w.frozen? ⟨P, 0, none⟩ = false := by simp [World.frozen?, hm.blk]
  have HB0 := hidden (Below.refl w.heap.size w)
  clear hm
  go_enter Try.func43, Try.ntmps43
  go_wp2_with fail
  go_region_law (refine step_append_sta rfl (.tmp 9) (.tmp 11) rfl P B (w.heap.size + 1) mv ss t (by simp [Act.eval]) (by simp [Act.eval]) (HM.out.later (by (with_reducible (repeat (first | exact HB0.out | apply bel_alloc | apply bel_put | apply bel_set | apply Below.drew | apply below_drewN | omega))))) (seven_new _ t _ (by simp) _) hlen (Nat.le_trans hB (by simp; omega)) ?_; intro g9 c9 w9 hown9 hg9 hl9 hP9; have cc9 : w9.cell? ⟨P, 0, none⟩ = some mv := (by simp [World.cell?, hP9]); have ff9 : w9.frozen? ⟨P, 0, none⟩ = false := (by simp [World.frozen?, hP9]))
  all_goals
    have HAD := hidden (added (t := t) HM.out (by (with_reducible (repeat (first | exact HB0.out | apply bel_alloc | apply bel_put | apply bel_set | apply Below.drew | apply below_drewN | omega)))) hown9 hg9 hl9 hP9)
    clear hown9 hg9 hl9 hP9
    go_wp2_with fail
    go_ret
    exact ⟨_, ret_int (by omega), HAD.out.1, HAD.out.2⟩

end Go.Proofs.Ytjlihidmohokhaa
