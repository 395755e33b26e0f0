/-
  Lists of nodes that a call owns, what an append to them does, and what the program's together answers; conditions: how long the list is.
-/
import Derived.Test.YtjeloflfhofdlaaEPiece
import Derived.Sort.AtCall
namespace Go.Proofs.Ytjeloflfhofdlaa
open Go.RowKit Go.Proofs.Ytjeloflfhofdlaa.Gl

theorem Try.infoNode : (Try.prog.info? 27).map (fun i => (i.zero, i.size, i.bytes)) = some (some (.agg #[.int .i64 0, .int .u64 0, .int .u64 0, .int .u64 0, .int .u64 0, .slice none 0 0, .int .i64 0, .int .i64 0]), 8, 80) := by kernel_rfl

/-- the cells of a node's value -/
def flat : Value → List Value
  | .agg cs => cs.toList
  | _ => []
def cells8 : List Value → List Value
  | [] => []
  | v :: l => flat v ++ cells8 l
/-- eight cells, each of one -/
def Eight (v : Value) : Prop := ∃ c0 c1 c2 c3 c4 c5 c6 c7, v = .agg #[c0, c1, c2, c3, c4, c5, c6, c7] ∧ ∀ u ∈ [c0, c1, c2, c3, c4, c5, c6, c7], u.oneCell' = true
theorem cells8_app (a b : List Value) : cells8 (a ++ b) = cells8 a ++ cells8 b := by
  induction a with
  | nil => rfl
  | cons v l ih => simp [cells8, ih]
theorem Eight.flat {v : Value} (h : Eight v) : (flat v).length = 8 := by
  obtain ⟨c0, c1, c2, c3, c4, c5, c6, c7, rfl, _⟩ := h
  rfl
theorem cells8_len (l : List Value) (h : ∀ v ∈ l, Eight v) : (cells8 l).length = l.length * 8 := by
  induction l with
  | nil => rfl
  | cons v l ih =>
    have h1 := (h v (by simp)).flat
    have h2 := ih (fun u hu => h u (by simp [hu]))
    simp [cells8, h1, h2]
    omega
theorem cells8_at (l : List Value) (h : ∀ v ∈ l, Eight v) : ∀ (j i : Nat) (v : Value), l[j]? = some v → i < 8 → (cells8 l)[j * 8 + i]? = (flat v)[i]? := by
  induction l with
  | nil => intro j i v hj; simp at hj
  | cons x l ih =>
    intro j i v hj hi
    have h1 := (h x (by simp)).flat
    cases j with
    | zero =>
      simp at hj
      subst hj
      rw [cells8, Nat.zero_mul, Nat.zero_add, List.getElem?_append_left (by omega)]
    | succ j =>
      rw [cells8, List.getElem?_append_right (by omega), h1, show (j + 1) * 8 + i - 8 = j * 8 + i by omega]
      exact ih (fun u hu => h u (by simp [hu])) j i v (by simpa using hj) hi
theorem NodeAt.eight {w : World} {A : Nat → Prop} {v : Value} {d : Nd} (h : NodeAt w A v d) : Eight v := by
  obtain ⟨z, y0, y1, y2, y3, sa, sn, sc, lo, hi, rfl⟩ := h.shapeI
  refine ⟨_, _, _, _, _, _, _, _, rfl, fun u hu => ?_⟩
  simp at hu
  rcases hu with rfl | rfl | rfl | rfl | rfl | rfl | rfl | rfl <;> rfl

/-- a list of nodes that the call owns: from block B on, each node beside the list's own block -/
structure LN (B : Nat) (v : Value) (vs : List Value) (l : List Nd) (W : World) : Prop where
  len : vs.length = l.length
  own : W.ownsRow B 27 8 v l.length (cells8 vs)
  eights : ∀ u ∈ vs, Eight u
  nodes : ∀ (j : Nat) u d, vs[j]? = some u → l[j]? = some d → NodeAt W (fun b => B ≤ b ∧ some b ≠ v.ownBlock) u d
theorem LN.nil (B : Nat) (W : World) : LN B (.slice none 0 0) [] [] W :=
  ⟨rfl, World.ownsRow_nil W B _ _, fun u h => by simp at h, fun j u d h => by simp at h⟩
/-- nothing from B on has turned -/
theorem LN.keep {B : Nat} {v : Value} {vs : List Value} {l : List Nd} {W W' : World} (h : LN B v vs l W) (hb : ∀ b, B ≤ b → b < W.heap.size → W'.heap[b]? = W.heap[b]?) : LN B v vs l W' := by
  refine ⟨h.len, ?_, h.eights, fun j u d hu hd => (h.nodes j u d hu hd).keep fun b hA hlt => ⟨hb b hA.1 hlt, hA⟩⟩
  refine ⟨h.own.1, ?_⟩
  rcases h.own.2 with hn | ⟨g, cap, cur, hv, hg, hh, rest⟩
  · exact Or.inl hn
  · exact Or.inr ⟨g, cap, cur, hv, hg, by rw [hb g hg (Array.getElem?_eq_some_iff.1 hh).1]; exact hh, rest⟩
theorem LN.alloc {B : Nat} {v : Value} {vs : List Value} {l : List Nd} {W : World} (h : LN B v vs l W) (o : Obj) : LN B v vs l (W.alloc o) := h.keep fun b _ hlt => Below.heap_alloc W o b hlt
theorem LN.drewN {B : Nat} {v : Value} {vs : List Value} {l : List Nd} {W : World} (h : LN B v vs l W) (n : Nat) : LN B v vs l (W.drewN n) := h.keep fun _ _ _ => rfl
theorem LN.drew {B : Nat} {v : Value} {vs : List Value} {l : List Nd} {W : World} (h : LN B v vs l W) : LN B v vs l W.drew := h.keep fun _ _ _ => rfl
theorem LN.gr {B R : Nat} {v : Value} {vs : List Value} {l : List Nd} {W W' : World} (h : LN B v vs l W) (hg : Gr R W W') (hR : R < B) : LN B v vs l W' := h.keep fun b hB hlt => hg.same hlt (by omega)
theorem LN.other {B : Nat} {v : Value} {vs : List Value} {l : List Nd} {W : World} (h : LN B v vs l W) {g i : Nat} {u : Value} (hg : g < B) : LN B v vs l (W.setCell ⟨g, i, none⟩ u) := h.keep fun b hB _ => heap_setCell_other W ⟨g, i, none⟩ b u (by show b ≠ g; omega)
theorem LN.put {B : Nat} {v : Value} {vs : List Value} {l : List Nd} {W : World} (h : LN B v vs l W) {g : Nat} (hg : g < B) (d0 d1 d2 d3 d4 d5 d6 d7 : Value) : LN B v vs l ((((((((W.setCell ⟨g, 0, none⟩ d0).setCell ⟨g, 1, none⟩ d1).setCell ⟨g, 2, none⟩ d2).setCell ⟨g, 3, none⟩ d3).setCell ⟨g, 4, none⟩ d4).setCell ⟨g, 5, none⟩ d5).setCell ⟨g, 6, none⟩ d6).setCell ⟨g, 7, none⟩ d7) := h.keep fun b hB _ => heap_put W (by omega) _ _ _ _ _ _ _ _
theorem LN.below {B : Nat} {v : Value} {vs : List Value} {l : List Nd} {W W' : World} (h : LN B v vs l W) (hb : Below W.heap.size W W') : LN B v vs l W' := h.keep fun b _ hlt => hb.block b hlt
theorem LN.lt {B : Nat} {v : Value} {vs : List Value} {l : List Nd} {W : World} (h : LN B v vs l W) : ∀ k, v.ownBlock = some k → B ≤ k ∧ k < W.heap.size := h.own.lt
/-- the list as a list in memory -/
theorem LN.kids {B : Nat} {v : Value} {vs : List Value} {l : List Nd} {W : World} (h : LN B v vs l W) : KidsAt W (B ≤ ·) v l := by
  rcases h.own.2 with ⟨hv, hn⟩ | ⟨g, cap, cur, hv, hg, hh, hnc, hcm, hcs, hct⟩
  · obtain rfl : l = [] := List.eq_nil_of_length_eq_zero hn
    subst hv
    exact KidsAt.nil W _
  · refine ⟨some ⟨g, 0, none⟩, cap, vs, hv, h.len, hnc, fun _ => ⟨g, 0, rfl, hg, fun j u hu => ?_⟩, fun j u d hu hd => (h.nodes j u d hu hd).keep fun b hA _ => ⟨rfl, hA.1⟩⟩
    have he := h.eights u (List.mem_of_getElem? hu)
    obtain ⟨c0, c1, c2, c3, c4, c5, c6, c7, rfl, _⟩ := he
    have hc : ∀ i, i < 8 → ∀ c, [c0, c1, c2, c3, c4, c5, c6, c7][i]? = some c → W.cell? ⟨g, 0 + j * 8 + i, none⟩ = some c := by
      intro i hi c hci
      have h1 := cells8_at vs h.eights j i _ hu hi
      have h2 := h.own.cells (g := g) (by rw [hv]; rfl) (j * 8 + i) c (by rw [h1]; exact hci)
      have h3 : (⟨g, 0, none⟩ : Addr).add (j * 8 + i) = ⟨g, 0 + j * 8 + i, none⟩ := by
        unfold Addr.add
        split <;> simp_all
      rw [h3] at h2
      exact h2
    exact ⟨c0, c1, c2, c3, c4, c5, c6, c7, rfl, hc 0 (by decide) _ rfl, hc 1 (by decide) _ rfl, hc 2 (by decide) _ rfl, hc 3 (by decide) _ rfl, hc 4 (by decide) _ rfl, hc 5 (by decide) _ rfl, hc 6 (by decide) _ rfl, hc 7 (by decide) _ rfl⟩

theorem eight_new (W : World) (c0 c1 c2 c3 c4 c5 c6 c7 : Value) (t : TypeId) (b : Nat) (hb : b = W.heap.size) : ∀ j u, [c0, c1, c2, c3, c4, c5, c6, c7][j]? = some u → (W.alloc (.cells #[c0, c1, c2, c3, c4, c5, c6, c7] t)).cell? ((⟨b, 0, none⟩ : Addr).add j) = some u := by
  intro j u h
  subst hb
  have h3 : (⟨W.heap.size, 0, none⟩ : Addr).add j = ⟨W.heap.size, j, none⟩ := by
    unfold Addr.add
    split <;> simp_all
  have hh : (W.alloc (.cells #[c0, c1, c2, c3, c4, c5, c6, c7] t)).heap[W.heap.size]? = some (.cells #[c0, c1, c2, c3, c4, c5, c6, c7] t) := by
    show (W.heap.push _)[W.heap.size]? = _
    exact Array.getElem?_push_size
  rw [h3]
  simp only [World.cell?, hh]
  simpa using h
/-- what 'append' of one node to a list of the call's own does -/
theorem wpList_append_node (w : World) {ops : Array Oper} {rest : List Oper} {o : Oper} {a : Act} {Q : Exit → Act → World → Prop} (hw : Region.wanted o (yielded ops a.tmps) = true) (s x : Operand)
    (ho : o.op = .call { callee := .builtin .append, args := #[s, x], argTypes := #[25, 25] }) (B b : Nat) (v : Value) (vs : List Value) (l : List Nd) (d : Nd) (c0 c1 c2 c3 c4 c5 c6 c7 : Value) (hs : a.eval s = v) (hx : a.eval x = .slice (some ⟨b, 0, none⟩) 1 1)
    (hl : LN B v vs l w) (hd : NodeAt w (fun b => B ≤ b ∧ some b ≠ v.ownBlock) (.agg #[c0, c1, c2, c3, c4, c5, c6, c7]) d) (hcell : ∀ j u, [c0, c1, c2, c3, c4, c5, c6, c7][j]? = some u → w.cell? ((⟨b, 0, none⟩ : Addr).add j) = some u) (hlen : l.length < 1048576) (hB : B ≤ w.heap.size)
    (h : ∀ v' w', LN B v' (vs ++ [.agg #[c0, c1, c2, c3, c4, c5, c6, c7]]) (l ++ [d]) w' → w.grownBy w' v.ownBlock → wpList Try.prog ops Q rest (a.put o.dst v') w') : wpList Try.prog ops Q (o :: rest) a w := by
  refine BigFrame.wpList_want hw fun _ hK => ?_
  obtain ⟨i0, hi, hz0, hz1, hz2⟩ := info_parts Try.infoNode
  have he : Eight (.agg #[c0, c1, c2, c3, c4, c5, c6, c7]) := hd.eight
  have h1 : ∀ u ∈ [c0, c1, c2, c3, c4, c5, c6, c7], u.oneCell' = true := by
    obtain ⟨e0, e1, e2, e3, e4, e5, e6, e7, hv, hu⟩ := he
    injection hv with hv
    simp at hv
    obtain ⟨rfl, rfl, rfl, rfl, rfl, rfl, rfl, rfl⟩ := hv
    exact hu
  obtain ⟨v', w', hr, h2, h3, _, h5⟩ := run_append_own_at (P := Try.prog) w B 25 o.type 27 i0 (.agg #[.int .i64 0, .int .u64 0, .int .u64 0, .int .u64 0, .int .u64 0, .slice none 0 0, .int .i64 0, .int .i64 0]) 8 80 Try.underlying25 hi hz0 hz1 hz2 rfl (by decide) v l.length (cells8 vs) hl.own ⟨b, 0, none⟩ 1 1 [c0, c1, c2, c3, c4, c5, c6, c7] rfl hcell h1 (by unfold maxLen; omega) (by omega) hB
  have hnew : ∀ b', (B ≤ b' ∧ some b' ≠ v.ownBlock) → b' < w.heap.size → w'.heap[b']? = w.heap[b']? ∧ (B ≤ b' ∧ some b' ≠ v'.ownBlock) := by
    intro b' hA hlt
    refine ⟨h3.block b' hlt hA.2, hA.1, ?_⟩
    rcases h5 with h5 | h5
    · rw [h5]; exact hA.2
    · rw [h5]; intro e; cases e; omega
  have hLN : LN B v' (vs ++ [.agg #[c0, c1, c2, c3, c4, c5, c6, c7]]) (l ++ [d]) w' := by
    refine ⟨by simp [hl.len], ?_, ?_, ?_⟩
    · rw [cells8_app, List.length_append]; exact h2
    · intro u hu
      rcases List.mem_append.1 hu with hu | hu
      · exact hl.eights u hu
      · simp at hu; rw [hu]; exact he
    · intro j u e hu hd'
      by_cases hj : j < vs.length
      · rw [List.getElem?_append_left hj] at hu
        rw [List.getElem?_append_left (by rw [← hl.len]; exact hj)] at hd'
        exact (hl.nodes j u e hu hd').keep hnew
      · rw [List.getElem?_append_right (by omega)] at hu
        rw [List.getElem?_append_right (by rw [← hl.len]; omega)] at hd'
        rw [hl.len] at hu
        cases hjj : j - l.length with
        | zero =>
          rw [hjj] at hu hd'
          simp at hu hd'
          rw [← hu, ← hd']
          exact hd.keep hnew
        | succ m => rw [hjj] at hu; simp at hu
  unfold Oper.wp execOp
  simp only [ho, resolve, invoke, builtin, Sem.run_bind, Sem.run_pure, Result.andThen_ok, List.map_toArray, List.map_cons, List.map_nil, hs, hx, hr]
  exact hK _ _ (h v' w' hLN h3)

set_option maxHeartbeats 2000000 in
theorem together_any (kind : Int) (kv : Value) (l : List Nd) (n : Nat) (w : World) (hk : KidsAt w (n ≤ ·) kv l) (hl : l ≠ []) (hlen : l.length ≤ 1048576) :
    Calls Try.prog 26 #[.int .i64 kind, kv] w fun e w' => (∃ v, e = .returned v ∧ NodeAt w' (n ≤ ·) v (together kind l)) ∧ Below w.heap.size w w' := by
  have HK := hidden hk
  obtain ⟨a, cap, vs, rfl, hvl, hcap, hcells, hkids⟩ := hk
  obtain ⟨b, o, rfl, hA, hc⟩ := hcells hl
  have HB := hidden (Below.refl w.heap.size w)
  by_cases h1 : l.length = 1
  · obtain ⟨d, rfl⟩ : ∃ d, l = [d] := List.length_eq_one_iff.1 h1
    obtain ⟨u, rfl⟩ : ∃ u, vs = [u] := List.length_eq_one_iff.1 hvl
    obtain ⟨c0, c1, c2, c3, c4, c5, c6, c7, rfl, q0, q1, q2, q3, q4, q5, q6, q7⟩ := hc 0 u rfl
    have hN := hkids 0 _ d rfl rfl
    obtain ⟨z, y0, y1, y2, y3, sa, sn, sc, lo, hi, hsh⟩ := hN.shapeI
    injection hsh with hsh
    simp at hsh
    obtain ⟨rfl, rfl, rfl, rfl, rfl, rfl, rfl, rfl⟩ := hsh
    have HN := hidden hN
    rw [Nat.zero_mul, Nat.add_zero] at q0 q1 q2 q3 q4 q5 q6 q7
    have hbl : b < w.heap.size := World.block_lt_of_cell? w ⟨b, o, none⟩ q0
    clear hN hkids hc hcells hl h1 hvl
    go_enter Try.func26, Try.ntmps26
    go_wp2
    refine bodyPost_ret (results_node1 rfl _ _ w.heap.size (.int .i64 z) (.int .u64 y0) (.int .u64 y1) (.int .u64 y2) (.int .u64 y3) (.slice sa sn sc) (.int .i64 lo) (.int .i64 hi) rfl (by (with_reducible (repeat (first | exact HB.out | (apply Blk.newAt; simp; done) | apply Blk.alloc | apply Blk.put | apply Blk.putOther | apply Blk.other | apply Blk.drewN | apply Blk.drew | omega))))) rfl ?_
    exact ⟨⟨_, rfl, by show NodeAt _ _ _ d; (with_reducible (repeat (first | exact HN.out | apply NodeAt.alloc | apply NodeAt.putN | apply NodeAt.other | apply NodeAt.putO | apply NodeAt.otherO | apply NodeAt.drewN | apply NodeAt.drew | omega)))⟩, by (with_reducible (repeat (first | exact HB.out | apply bel_alloc | apply bel_put | apply bel_set | apply Below.drew | apply below_drewN | omega)))⟩
  · have h1i : ¬ (l.length : Int) = 1 := by omega
    have h1b : ((l.length : Int) == 1) = false := by rw [beq_eq_false_iff_ne]; exact h1i
    have HT := hidden (show together kind l = .mk kind none_ l 0 0 by
      unfold together
      split
      · exact absurd rfl h1
      · rfl)
    clear hkids hc hcells hl h1 hvl
    go_enter Try.func26, Try.ntmps26
    go_wp2
    refine bodyPost_ret (results_node1 rfl _ _ w.heap.size (.int .i64 kind) (.int .u64 0) (.int .u64 0) (.int .u64 0) (.int .u64 0) (.slice (some ⟨b, o, none⟩) l.length cap) (.int .i64 0) (.int .i64 0) rfl (by (with_reducible (repeat (first | exact HB.out | (apply Blk.newAt; simp; done) | apply Blk.alloc | apply Blk.put | apply Blk.putOther | apply Blk.other | apply Blk.drewN | apply Blk.drew | omega))))) rfl ?_
    refine ⟨⟨_, rfl, ?_⟩, by (with_reducible (repeat (first | exact HB.out | apply bel_alloc | apply bel_put | apply bel_set | apply Below.drew | apply below_drewN | omega)))⟩
    rw [HT.out]
    have := (HK.out.later ((Below.refl _ w).alloc (Nat.le_refl _) (.cells #[.int .i64 kind, .int .u64 0, .int .u64 0, .int .u64 0, .int .u64 0, .slice (some ⟨b, o, none⟩) l.length cap, .int .i64 0, .int .i64 0] 27))).shut kind none_ 0 0
    unfold nodeV at this
    rw [show word none_ 0 = 0 from word_none 0, show word none_ 1 = 0 from word_none 1, show word none_ 2 = 0 from word_none 2, show word none_ 3 = 0 from word_none 3] at this
    exact this

end Go.Proofs.Ytjeloflfhofdlaa
