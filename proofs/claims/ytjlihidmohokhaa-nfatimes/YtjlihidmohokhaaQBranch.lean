/-
  What the document's own branch answers, where its piece answers as it should: pieces, one behind the other; conditions: the text's length, and that the reader's block holds it.
-/
import Derived.Test.YtjlihidmohokhaaQPiece
import Derived.Test.YtjlihidmohokhaaKBase
namespace Go.Proofs.Ytjlihidmohokhaa
open Go.RowKit Go.Proofs.Ytjlihidmohokhaa.Gl

theorem QSt.keep {w w' : World} {R : Nat} {p : Tx} {k : Nat} {d : Int} {r : Rs Nd} {x : Nd} (h : QSt w R p k d r x) (hb : w'.heap[R]? = w.heap[R]?) : QSt w' R p k d r x := by
  rcases h with ⟨m, h1, h2⟩ | ⟨h1, h2⟩
  · exact Or.inl ⟨m, h1, h2.keep hb⟩
  · exact Or.inr ⟨h1, h2.keep hb⟩
theorem QSt.lt {w : World} {R : Nat} {p : Tx} {k : Nat} {d : Int} {r : Rs Nd} {x : Nd} (h : QSt w R p k d r x) : R < w.heap.size := by
  rcases h with ⟨m, h1, h2⟩ | ⟨h1, h2⟩
  · exact h2.lt
  · exact h2.lt
theorem QSt.alloc {w : World} {R : Nat} {p : Tx} {k : Nat} {d : Int} {r : Rs Nd} {x : Nd} (h : QSt w R p k d r x) (o : Obj) : QSt (w.alloc o) R p k d r x := h.keep (Below.heap_alloc w o R h.lt)
theorem QSt.drewN {w : World} {R : Nat} {p : Tx} {k : Nat} {d : Int} {r : Rs Nd} {x : Nd} (h : QSt w R p k d r x) (n : Nat) : QSt (w.drewN n) R p k d r x := h.keep rfl
theorem QSt.other {w : World} {R : Nat} {p : Tx} {k : Nat} {d : Int} {r : Rs Nd} {x : Nd} (h : QSt w R p k d r x) {g i : Nat} {v : Value} (hn : R ≠ g) : QSt (w.setCell ⟨g, i, none⟩ v) R p k d r x := h.keep (heap_setCell_other w ⟨g, i, none⟩ R v hn)
theorem QSt.put {w : World} {R : Nat} {p : Tx} {k : Nat} {d : Int} {r : Rs Nd} {x : Nd} (h : QSt w R p k d r x) {g : Nat} (hn : R ≠ g) (d0 d1 d2 d3 d4 d5 d6 d7 : Value) : QSt ((((((((w.setCell ⟨g, 0, none⟩ d0).setCell ⟨g, 1, none⟩ d1).setCell ⟨g, 2, none⟩ d2).setCell ⟨g, 3, none⟩ d3).setCell ⟨g, 4, none⟩ d4).setCell ⟨g, 5, none⟩ d5).setCell ⟨g, 6, none⟩ d6).setCell ⟨g, 7, none⟩ d7) R p k d r x :=
  (((((((h.other hn).other hn).other hn).other hn).other hn).other hn).other hn).other hn
theorem QAns.of {w w' : World} {v : Value} {R : Nat} {p : Tx} {k : Nat} {d : Int} {r : Rs Nd} {x : Nd} (hn : NodeAt w' (w.heap.size ≤ ·) v x) (h : QSt w' R p k d r x) : QAns w w' (.returned v) R p k d r := by
  rcases h with ⟨m, rfl, h2⟩ | ⟨⟨m, c, rfl⟩, h2⟩
  · exact ⟨v, rfl, hn, h2⟩
  · exact ⟨v, x, rfl, hn, h2⟩
/-- what is kept from piece to piece -/
structure BQ (w : World) (R : Nat) (v : Value) (vs : List Value) (l : List Nd) (W : World) : Prop where
  gr : Gr R w W
  zero : ZeroAt W w.heap.size
  ln : LN (w.heap.size + 1) v vs l W
theorem BQ.drewN {w W : World} {R : Nat} {v : Value} {vs : List Value} {l : List Nd} (h : BQ w R v vs l W) (n : Nat) : BQ w R v vs l (W.drewN n) := ⟨h.gr.drewN n, h.zero.drewN n, h.ln.drewN n⟩
/-- the first of a list, as the walk reads it -/
theorem LN.first {B : Nat} {v : Value} {u : Value} {vs : List Value} {x : Nd} {l : List Nd} {W : World} (h : LN B v (u :: vs) (x :: l) W) : ∃ g cap, v = .slice (some ⟨g, 0, none⟩) (l.length + 1) cap ∧ l.length + 1 ≤ cap ∧ g < W.heap.size ∧ NodeCells W g 0 u ∧ NodeAt W (B ≤ ·) u x := by
  obtain ⟨a, cap, ws, hv, hl, hc, hcells, hkids⟩ := h.kids
  rcases h.own.2 with ⟨_, h0⟩ | ⟨g, cap2, cur, hv2, hg, hh, rest⟩
  · simp at h0
  · have hlen := h.len
    refine ⟨g, cap2, hv2, by simpa using rest.1, (Array.getElem?_eq_some_iff.1 hh).1, ?_, (h.nodes 0 u x rfl rfl).keep fun b hA _ => ⟨rfl, hA.1⟩⟩
    have he := h.eights u (by simp)
    obtain ⟨c0, c1, c2, c3, c4, c5, c6, c7, rfl, _⟩ := he
    have hcc : ∀ i c, [c0, c1, c2, c3, c4, c5, c6, c7][i]? = some c → W.cell? ⟨g, i, none⟩ = some c := by
      intro i c hi
      have h2 := h.own.cells (g := g) (by rw [hv2]; rfl) i c (by
        show (flat (.agg #[c0, c1, c2, c3, c4, c5, c6, c7]) ++ cells8 vs)[i]? = some c
        have hi8 : i < 8 := by have := (List.getElem?_eq_some_iff.1 hi).1; simpa using this
        rw [List.getElem?_append_left (by show i < [c0, c1, c2, c3, c4, c5, c6, c7].length; simpa using hi8)]
        exact hi)
      rw [addr_plus, Nat.zero_add] at h2
      exact h2
    exact ⟨c0, c1, c2, c3, c4, c5, c6, c7, rfl, hcc 0 _ rfl, hcc 1 _ rfl, hcc 2 _ rfl, hcc 3 _ rfl, hcc 4 _ rfl, hcc 5 _ rfl, hcc 6 _ rfl, hcc 7 _ rfl⟩
theorem catOf_many {a b : Nd} {l : List Nd} : catOf (a :: b :: l) = .mk 3 none_ (a :: b :: l) 0 0 := by unfold catOf; rw [if_neg (by simp)]; rfl

set_option maxHeartbeats 8000000 in
theorem qbranch_any (g : Tx → Rs Nd) (o : Nat) (hg : Tame g) (hpc : QReads 39 (pieceE g) (o : Int)) : QReadsTo 27 (branchE g) (o : Int) := by
  intro p k R w hp hk hr
  have hR := hr.lt
  have HR0 := hidden hr
  have HZ0 := hidden (Blk.new w (.int .i64 0) (.int .u64 0) (.int .u64 0) (.int .u64 0) (.int .u64 0) (.slice none 0 0) (.int .i64 0) (.int .i64 0))
  have HX := hidden hpc
  have HT := hidden hg
  clear hr hpc hg
  go_enter Try.func27, Try.ntmps27
  go_wp2_with fail
  go_loopw [3] (fun v wr => ∃ (vs : List Value) (l : List Nd), l.length ≤ p.length ∧ Hid (BQ w R v vs l wr ∧ ((∃ q n : Nat, q ≤ p.length ∧ k ≤ q ∧ l.length ≤ q - k ∧ RqAt wr R p q o (-1) 0 ∧ (p.drop q).length < n ∧ piecesE g ((p.drop k).length + 1) (p.drop k) = ((piecesE g n (p.drop q)).map (l ++ ·)).far (q - k)) ∨ BadAt wr R p ∧ ∃ m c, branchE g (p.drop k) = .er m c)))
    (fun _ wr => lifeOf wr R p.length)
  case atStart =>
    refine ⟨[], [], Nat.zero_le _, ⟨by (with_reducible (repeat (first | exact Gr.refl _ _ | apply Gr.alloc | apply Gr.put | apply Gr.own | apply Gr.new | apply Gr.drewN | apply Gr.drew | omega))), by (with_reducible (repeat (first | exact HZ0.out | exact Blk.newAt (by simp) | apply Blk.alloc | apply Blk.put | apply Blk.putOther | apply Blk.other | apply Blk.drewN | apply Blk.drew | omega))), LN.nil _ _⟩, Or.inl ⟨k, (p.drop k).length + 1, hk, Nat.le_refl _, Nat.zero_le _, by (with_reducible (repeat (first | exact HR0.out | apply RqAt.alloc | apply RqAt.put | apply RqAt.set1 | apply RqAt.set1i | apply RqAt.set2 | apply RqAt.set2i | apply RqAt.set3 | apply RqAt.set4 | apply RqAt.other | apply RqAt.drewN | apply RqAt.drew | exact (Int.natCast_succ _).symm | omega))), by omega, ?_⟩⟩
    rw [Nat.sub_self, far_zero]
    cases piecesE g ((p.drop k).length + 1) (p.drop k) <;> rfl
  case round =>
    obtain ⟨vs, l, hlp, hK0, hcase⟩ := hrel
    have HK := hidden hK0
    clear hK0
    rcases hcase with ⟨q, n, hq, hkq, hll, hr0, hn, hpost⟩ | ⟨hbad, hbm⟩
    · have HRD := hidden hr0
      have HP := hidden hpost
      rw [List.length_drop] at hn
      clear hr0 hpost
      have hRl := HRD.out.lt
      have hZl := HK.out.zero.lt
      obtain ⟨r0, r1, r2, r3, r4⟩ := HRD.out.cells
      obtain ⟨t0, t1, t2, t3, t4⟩ := HRD.out.thawed
      obtain ⟨z0, z1, z2, z3, z4, z5, z6, z7⟩ := HK.out.zero.cells
      obtain ⟨f0, f1, f2, f3, f4, f5, f6, f7⟩ := HK.out.zero.thawed
      obtain ⟨n, rfl⟩ : ∃ m, n = m + 1 := ⟨n - 1, by omega⟩
      have HEND := hidden (show ends (p.drop q) = true → QSt wr R p k o (branchE g (p.drop k)) (catOf l) from fun he => by
        refine Or.inl ⟨q - k, ?_, by rw [show k + (q - k) = q by omega]; exact HRD.out⟩
        unfold branchE
        rw [HP.out, piecesE, if_pos he]
        simp [Rs.map, Rs.far])
      by_cases hlt : q < p.length
      · have hli : (q : Int) < p.length := by omega
        have hei := ends_is hlt
        obtain ⟨c, hc⟩ : ∃ c, c = p.getD q 0 := ⟨_, rfl⟩
        have hb : ∀ h, (⟨p.toArray⟩ : ByteArray)[q]'h = c := fun h => by rw [byte_at, hc]
        rw [← hc] at hei
        clear hc
        by_cases e124 : c = 124
        · subst e124
          have HQ := hidden (HEND.out (by rw [hei]; rfl))
          clear hei HEND
          cases l with
          | nil =>
            rw [show catOf [] = plainN 1 from rfl] at HQ
            have hv2 : u3 = .slice none 0 0 ∨ ∃ g cap, u3 = .slice (some ⟨g, 0, none⟩) 0 cap := by
              rcases HK.out.ln.own.2 with ⟨h, _⟩ | ⟨g, cap, cur, h, _⟩
              · exact Or.inl h
              · exact Or.inr ⟨g, cap, h⟩
            rcases hv2 with rfl | ⟨gg, cap, rfl⟩
            all_goals
              go_wp2_with fail
              go_quiet (fail)
              go_wp2_with fail
              refine bodyPost_ret (results_node1 rfl _ _ w.heap.size (.int .i64 1) (.int .u64 0) (.int .u64 0) (.int .u64 0) (.int .u64 0) (.slice none 0 0) (.int .i64 0) (.int .i64 0) rfl (by (with_reducible (repeat (first | exact HK.out.zero | exact Blk.newAt (by simp) | apply Blk.alloc | apply Blk.put | apply Blk.putOther | apply Blk.other | apply Blk.drewN | apply Blk.drew | omega))))) rfl ?_
              exact ⟨by (with_reducible (repeat (first | exact HK.out.gr | apply Gr.alloc | apply Gr.put | apply Gr.own | apply Gr.new | apply Gr.drewN | apply Gr.drew | omega))), QAns.of (x := plainN 1) (plainN_lit _ _ 1 1 rfl) (by (with_reducible (repeat (first | exact HQ.out | apply QSt.alloc | apply QSt.put | apply QSt.other | apply QSt.drewN | omega))))⟩
          | cons x0 l2 =>
            cases vs with
            | nil => have := HK.out.ln.len; simp at this
            | cons v0 vs2 =>
            obtain ⟨gg, cap, hv, hcap, hgl, hcells, hnode⟩ := HK.out.ln.first
            cases l2 with
            | nil =>
              rw [show catOf [x0] = x0 from rfl] at HQ
              obtain ⟨c0, c1, c2, c3, c4, c5, c6, c7, hv0, q0, q1, q2, q3, q4, q5, q6, q7⟩ := hcells
              subst hv0
              obtain ⟨z, y0, y1, y2, y3, sa, sn, sc, lo, hi, hsh⟩ := hnode.shapeI
              injection hsh with hsh
              simp at hsh
              obtain ⟨rfl, rfl, rfl, rfl, rfl, rfl, rfl, rfl⟩ := hsh
              have HN := hidden (show NodeAt wr (w.heap.size + 1 ≤ ·) (.agg #[.int .i64 z, .int .u64 y0, .int .u64 y1, .int .u64 y2, .int .u64 y3, .slice sa sn sc, .int .i64 lo, .int .i64 hi]) x0 from hnode)
              rw [show ([] : List Nd).length + 1 = 1 from rfl] at hv hcap
              subst hv
              clear hnode
              go_wp2_with fail
              go_quiet (fail)
              go_wp2_with fail
              refine bodyPost_ret (results_node1 rfl _ _ w.heap.size (.int .i64 z) (.int .u64 y0) (.int .u64 y1) (.int .u64 y2) (.int .u64 y3) (.slice sa sn sc) (.int .i64 lo) (.int .i64 hi) rfl (by (with_reducible (repeat (first | exact HK.out.zero | exact Blk.newAt (by simp) | apply Blk.alloc | apply Blk.put | apply Blk.putOther | apply Blk.other | apply Blk.drewN | apply Blk.drew | omega))))) rfl ?_
              exact ⟨by (with_reducible (repeat (first | exact HK.out.gr | apply Gr.alloc | apply Gr.put | apply Gr.own | apply Gr.new | apply Gr.drewN | apply Gr.drew | omega))), QAns.of (x := x0) (by refine NodeAt.up (m := w.heap.size + 1) ?_ (by omega); (with_reducible (repeat (first | exact HN.out | apply NodeAt.alloc | apply NodeAt.putN | apply NodeAt.other | apply NodeAt.putO | apply NodeAt.otherO | apply NodeAt.drewN | apply NodeAt.drew | omega)))) (by (with_reducible (repeat (first | exact HQ.out | apply QSt.alloc | apply QSt.put | apply QSt.other | apply QSt.drewN | omega))))⟩
            | cons x1 l3 =>
              rw [show catOf (x0 :: x1 :: l3) = .mk 3 none_ (x0 :: x1 :: l3) 0 0 from catOf_many] at HQ
              have HKI := hidden HK.out.ln.kids
              obtain ⟨n3, hn3⟩ : ∃ n3, n3 = (x1 :: l3).length + 1 := ⟨_, rfl⟩
              rw [← hn3] at hv hcap
              have h2 : 2 ≤ n3 := by rw [hn3]; simp
              have h0i : ¬ (n3 : Int) = 0 := by omega
              have h0b : ((n3 : Int) == 0) = false := by rw [beq_eq_false_iff_ne]; exact h0i
              have h1i : ¬ (n3 : Int) = 1 := by omega
              have h1b : ((n3 : Int) == 1) = false := by rw [beq_eq_false_iff_ne]; exact h1i
              have HV := hidden hv
              have HN3 := hidden hn3
              subst hv
              clear hcells hnode hn3
              go_wp2_with fail
              go_quiet (fail)
              go_wp2_with fail
              refine bodyPost_ret (results_node1 rfl _ _ w.heap.size (.int .i64 3) (.int .u64 0) (.int .u64 0) (.int .u64 0) (.int .u64 0) (.slice (some ⟨gg, 0, none⟩) n3 cap) (.int .i64 0) (.int .i64 0) rfl (by (with_reducible (repeat (first | exact HK.out.zero | exact Blk.newAt (by simp) | apply Blk.alloc | apply Blk.put | apply Blk.putOther | apply Blk.other | apply Blk.drewN | apply Blk.drew | omega))))) rfl ?_
              refine ⟨by (with_reducible (repeat (first | exact HK.out.gr | apply Gr.alloc | apply Gr.put | apply Gr.own | apply Gr.new | apply Gr.drewN | apply Gr.drew | omega))), QAns.of (x := .mk 3 none_ (x0 :: x1 :: l3) 0 0) ?_ (by (with_reducible (repeat (first | exact HQ.out | apply QSt.alloc | apply QSt.put | apply QSt.other | apply QSt.drewN | omega))))⟩
              have h5 : NodeAt wr (w.heap.size + 1 ≤ ·) (nodeV 3 none_ (.slice (some ⟨gg, 0, none⟩) n3 cap) 0 0) (.mk 3 none_ (x0 :: x1 :: l3) 0 0) := HKI.out.shut 3 none_ 0 0
              unfold nodeV at h5
              rw [show word none_ 0 = 0 from word_none 0, show word none_ 1 = 0 from word_none 1, show word none_ 2 = 0 from word_none 2, show word none_ 3 = 0 from word_none 3] at h5
              refine NodeAt.up (m := w.heap.size + 1) ?_ (by omega)
              (with_reducible (repeat (first | exact h5 | apply NodeAt.alloc | apply NodeAt.putN | apply NodeAt.other | apply NodeAt.putO | apply NodeAt.otherO | apply NodeAt.drewN | apply NodeAt.drew | omega)))
        have n124 := byte_ne (n := 124) e124
        have m124 : ((c.toNat : Int) != 124) = true := by rw [bne_iff_ne]; exact n124
        by_cases e41 : c = 41
        · subst e41
          have HQ := hidden (HEND.out (by rw [hei]; rfl))
          clear hei HEND e124
          cases l with
          | nil =>
            rw [show catOf [] = plainN 1 from rfl] at HQ
            have hv2 : u3 = .slice none 0 0 ∨ ∃ g cap, u3 = .slice (some ⟨g, 0, none⟩) 0 cap := by
              rcases HK.out.ln.own.2 with ⟨h, _⟩ | ⟨g, cap, cur, h, _⟩
              · exact Or.inl h
              · exact Or.inr ⟨g, cap, h⟩
            rcases hv2 with rfl | ⟨gg, cap, rfl⟩
            all_goals
              go_wp2_with fail
              go_quiet (fail)
              go_wp2_with fail
              refine bodyPost_ret (results_node1 rfl _ _ w.heap.size (.int .i64 1) (.int .u64 0) (.int .u64 0) (.int .u64 0) (.int .u64 0) (.slice none 0 0) (.int .i64 0) (.int .i64 0) rfl (by (with_reducible (repeat (first | exact HK.out.zero | exact Blk.newAt (by simp) | apply Blk.alloc | apply Blk.put | apply Blk.putOther | apply Blk.other | apply Blk.drewN | apply Blk.drew | omega))))) rfl ?_
              exact ⟨by (with_reducible (repeat (first | exact HK.out.gr | apply Gr.alloc | apply Gr.put | apply Gr.own | apply Gr.new | apply Gr.drewN | apply Gr.drew | omega))), QAns.of (x := plainN 1) (plainN_lit _ _ 1 1 rfl) (by (with_reducible (repeat (first | exact HQ.out | apply QSt.alloc | apply QSt.put | apply QSt.other | apply QSt.drewN | omega))))⟩
          | cons x0 l2 =>
            cases vs with
            | nil => have := HK.out.ln.len; simp at this
            | cons v0 vs2 =>
            obtain ⟨gg, cap, hv, hcap, hgl, hcells, hnode⟩ := HK.out.ln.first
            cases l2 with
            | nil =>
              rw [show catOf [x0] = x0 from rfl] at HQ
              obtain ⟨c0, c1, c2, c3, c4, c5, c6, c7, hv0, q0, q1, q2, q3, q4, q5, q6, q7⟩ := hcells
              subst hv0
              obtain ⟨z, y0, y1, y2, y3, sa, sn, sc, lo, hi, hsh⟩ := hnode.shapeI
              injection hsh with hsh
              simp at hsh
              obtain ⟨rfl, rfl, rfl, rfl, rfl, rfl, rfl, rfl⟩ := hsh
              have HN := hidden (show NodeAt wr (w.heap.size + 1 ≤ ·) (.agg #[.int .i64 z, .int .u64 y0, .int .u64 y1, .int .u64 y2, .int .u64 y3, .slice sa sn sc, .int .i64 lo, .int .i64 hi]) x0 from hnode)
              rw [show ([] : List Nd).length + 1 = 1 from rfl] at hv hcap
              subst hv
              clear hnode
              go_wp2_with fail
              go_quiet (fail)
              go_wp2_with fail
              refine bodyPost_ret (results_node1 rfl _ _ w.heap.size (.int .i64 z) (.int .u64 y0) (.int .u64 y1) (.int .u64 y2) (.int .u64 y3) (.slice sa sn sc) (.int .i64 lo) (.int .i64 hi) rfl (by (with_reducible (repeat (first | exact HK.out.zero | exact Blk.newAt (by simp) | apply Blk.alloc | apply Blk.put | apply Blk.putOther | apply Blk.other | apply Blk.drewN | apply Blk.drew | omega))))) rfl ?_
              exact ⟨by (with_reducible (repeat (first | exact HK.out.gr | apply Gr.alloc | apply Gr.put | apply Gr.own | apply Gr.new | apply Gr.drewN | apply Gr.drew | omega))), QAns.of (x := x0) (by refine NodeAt.up (m := w.heap.size + 1) ?_ (by omega); (with_reducible (repeat (first | exact HN.out | apply NodeAt.alloc | apply NodeAt.putN | apply NodeAt.other | apply NodeAt.putO | apply NodeAt.otherO | apply NodeAt.drewN | apply NodeAt.drew | omega)))) (by (with_reducible (repeat (first | exact HQ.out | apply QSt.alloc | apply QSt.put | apply QSt.other | apply QSt.drewN | omega))))⟩
            | cons x1 l3 =>
              rw [show catOf (x0 :: x1 :: l3) = .mk 3 none_ (x0 :: x1 :: l3) 0 0 from catOf_many] at HQ
              have HKI := hidden HK.out.ln.kids
              obtain ⟨n3, hn3⟩ : ∃ n3, n3 = (x1 :: l3).length + 1 := ⟨_, rfl⟩
              rw [← hn3] at hv hcap
              have h2 : 2 ≤ n3 := by rw [hn3]; simp
              have h0i : ¬ (n3 : Int) = 0 := by omega
              have h0b : ((n3 : Int) == 0) = false := by rw [beq_eq_false_iff_ne]; exact h0i
              have h1i : ¬ (n3 : Int) = 1 := by omega
              have h1b : ((n3 : Int) == 1) = false := by rw [beq_eq_false_iff_ne]; exact h1i
              have HV := hidden hv
              have HN3 := hidden hn3
              subst hv
              clear hcells hnode hn3
              go_wp2_with fail
              go_quiet (fail)
              go_wp2_with fail
              refine bodyPost_ret (results_node1 rfl _ _ w.heap.size (.int .i64 3) (.int .u64 0) (.int .u64 0) (.int .u64 0) (.int .u64 0) (.slice (some ⟨gg, 0, none⟩) n3 cap) (.int .i64 0) (.int .i64 0) rfl (by (with_reducible (repeat (first | exact HK.out.zero | exact Blk.newAt (by simp) | apply Blk.alloc | apply Blk.put | apply Blk.putOther | apply Blk.other | apply Blk.drewN | apply Blk.drew | omega))))) rfl ?_
              refine ⟨by (with_reducible (repeat (first | exact HK.out.gr | apply Gr.alloc | apply Gr.put | apply Gr.own | apply Gr.new | apply Gr.drewN | apply Gr.drew | omega))), QAns.of (x := .mk 3 none_ (x0 :: x1 :: l3) 0 0) ?_ (by (with_reducible (repeat (first | exact HQ.out | apply QSt.alloc | apply QSt.put | apply QSt.other | apply QSt.drewN | omega))))⟩
              have h5 : NodeAt wr (w.heap.size + 1 ≤ ·) (nodeV 3 none_ (.slice (some ⟨gg, 0, none⟩) n3 cap) 0 0) (.mk 3 none_ (x0 :: x1 :: l3) 0 0) := HKI.out.shut 3 none_ 0 0
              unfold nodeV at h5
              rw [show word none_ 0 = 0 from word_none 0, show word none_ 1 = 0 from word_none 1, show word none_ 2 = 0 from word_none 2, show word none_ 3 = 0 from word_none 3] at h5
              refine NodeAt.up (m := w.heap.size + 1) ?_ (by omega)
              (with_reducible (repeat (first | exact h5 | apply NodeAt.alloc | apply NodeAt.putN | apply NodeAt.other | apply NodeAt.putO | apply NodeAt.otherO | apply NodeAt.drewN | apply NodeAt.drew | omega)))
        have n41 := byte_ne (n := 41) e41
        have m41 : ((c.toNat : Int) != 41) = true := by rw [bne_iff_ne]; exact n41
        have he : ends (p.drop q) = false := by rw [hei]; simp [e124, e41]
        have HP1 := hidden (show piecesE g ((p.drop k).length + 1) (p.drop k) = ((match pieceE g (p.drop q) with | .er m c => (Rs.er m c : Rs (List Nd)) | .ok d m => ((piecesE g n ((p.drop q).drop m)).map (d :: ·)).far m).map (l ++ ·)).far (q - k) by
          rw [HP.out, piecesE, if_neg (by rw [he]; decide)]
          cases pieceE g (p.drop q) <;> rfl)
        have HTM := hidden (pieceE_tame HT.out (p.drop q) (drop_ne hlt))
        clear hei he e124 e41 HEND
        go_wp2_with fail
        go_quiet (fail)
        generalize hW2 : World.drewN _ nq = W2
        have HK2 := hidden (show BQ w R u3 vs l W2 by rw [← hW2]; exact HK.out.drewN _)
        have HRD2 := hidden (show RqAt W2 R p q o (-1) 0 by rw [← hW2]; exact HRD.out.drewN _)
        clear hW2
        clear hRl hZl r0 r1 r2 r3 r4 t0 t1 t2 t3 t4 z0 z1 z2 z3 z4 z5 z6 z7 f0 f1 f2 f3 f4 f5 f6 f7 HK
        have HK := HK2
        clear HK2
        go_wp2_with fail
        refine (HX.out p q R _ hp hlt HRD2.out).mono ?_
        rintro e w1 ⟨hg1, ha1⟩
        have hs1 : W2.heap.size ≤ w1.heap.size := hg1.size
        have HG1 := hidden (Gr.tr (a := w) HK.out.gr hg1)
        have HZ1 := hidden (ZeroAt.gr HK.out.zero hg1 (by omega))
        have HL1 := hidden (LN.gr HK.out.ln hg1 (by omega))
        obtain ⟨u, x, rfl, hn1, hst⟩ := ha1.out
        obtain ⟨z, y0, y1, y2, y3, sa, sn, sc, lo, hi, rfl⟩ := hn1.shapeI
        have hown := HK.out.ln.lt
        have hzl0 := HK.out.zero.lt
        have HN1 := hidden (show NodeAt w1 (fun b => w.heap.size + 1 ≤ b ∧ some b ≠ u3.ownBlock) (.agg #[.int .i64 z, .int .u64 y0, .int .u64 y1, .int .u64 y2, .int .u64 y3, .slice sa sn sc, .int .i64 lo, .int .i64 hi]) x from hn1.keep fun b hA _ => ⟨rfl, by have : W2.heap.size ≤ b := hA; omega, fun e => by have h5 := (hown b e.symm).2; have : W2.heap.size ≤ b := hA; omega⟩)
        have HST := hidden hst
        have hlen2 : l.length < 1048576 := by omega
        have hlt1 : w.heap.size + 1 ≤ w1.heap.size := by omega
        clear hg1 hn1 ha1 hst hown hs1
        go_wp2_with (at_builtin; go_must (refine wpList_append_node _ (by go_simp) (.tmp 45) (.tmp 48) rfl (w.heap.size + 1) _ u3 vs l x (.int .i64 z) (.int .u64 y0) (.int .u64 y1) (.int .u64 y2) (.int .u64 y3) (.slice sa sn sc) (.int .i64 lo) (.int .i64 hi) rfl rfl (by (with_reducible (repeat (first | exact HL1.out | apply LN.alloc | apply LN.put | apply LN.other | apply LN.drewN | apply LN.drew | omega)))) (HN1.out.alloc _) (eight_new _ _ _ _ _ _ _ _ _ _ _ (by simp)) hlen2 (by simp; omega) ?_; intro v9 w9 hln9 hg9))
        have hown9 := HL1.out.lt
        have HG9 := hidden (Gr.grown (R := R) (w := w) (by (with_reducible (repeat (first | exact HG1.out | apply Gr.alloc | apply Gr.put | apply Gr.own | apply Gr.new | apply Gr.drewN | apply Gr.drew | omega)))) hg9 (fun j hj => by have := (hown9 j hj).1; omega))
        have HR9 := hidden (show w9.heap[R]? = w1.heap[R]? from (hg9.block R (by have := HG1.out.size; simp; omega) (fun e => by have := (hown9 R e.symm).1; omega)).trans (Below.heap_alloc _ _ _ (by have := HG1.out.size; omega)))
        have HZ9 := hidden (show ZeroAt w9 w.heap.size from by
          refine Blk.keep (w := _) (by (with_reducible (repeat (first | exact HZ1.out | exact Blk.newAt (by simp) | apply Blk.alloc | apply Blk.put | apply Blk.putOther | apply Blk.other | apply Blk.drewN | apply Blk.drew | omega)))) (hg9.block _ (by have := HZ1.out.lt; simp; omega) (fun e => by have := (hown9 _ e.symm).1; omega)))
        have HL9 := hidden hln9
        clear hln9 hg9 hown9
        go_wp2_with fail
        go_roundw
        case rel =>
          refine ⟨vs ++ [.agg #[.int .i64 z, .int .u64 y0, .int .u64 y1, .int .u64 y2, .int .u64 y3, .slice sa sn sc, .int .i64 lo, .int .i64 hi]], l ++ [x], by rw [List.length_append]; show l.length + 1 ≤ p.length; omega, ⟨HG9.out, HZ9.out, HL9.out⟩, ?_⟩
          rcases HST.out with ⟨m, hx, hr1⟩ | ⟨⟨m, c2, hx⟩, hb⟩
          · have hm := HTM.out
            rw [hx, List.length_drop] at hm
            have hm1 : m ≤ p.length - q := hm.1
            have hm2 : 1 ≤ m := hm.2 x m rfl
            refine Or.inl ⟨q + m, n, by omega, by omega, by rw [List.length_append]; show l.length + 1 ≤ q + m - k; omega, hr1.keep HR9.out, by rw [List.length_drop]; omega, ?_⟩
            rw [HP1.out, hx]
            simp only []
            rw [map_far, far_far, map_map, List.drop_drop, show q - k + m = q + m - k by omega]
            congr 2
            funext t
            simp
          · exact Or.inr ⟨hb.keep HR9.out, q - k + m, c2, by unfold branchE; rw [HP1.out, hx]; rfl⟩
        case measure =>
          rcases HST.out with ⟨m, hx, hr1⟩ | ⟨⟨m, c2, hx⟩, hb⟩
          · have hm := HTM.out
            rw [hx, List.length_drop] at hm
            have hm1 : m ≤ p.length - q := hm.1
            have hm2 : 1 ≤ m := hm.2 x m rfl
            exact RqAt.less (p := p) (k := q) (k' := q + m) (hr1.keep HR9.out) HRD.out (by omega) (by omega)
          · exact BadAt.less (p := p) (k := q) (hb.keep HR9.out) HRD.out (by omega)
      · have hli : ¬ (q : Int) < p.length := by omega
        have hld : decide ((q : Int) < p.length) = false := by simp; omega
        have HQ := hidden (HEND.out (ends_end (by omega)))
        clear HEND
        cases l with
        | nil =>
          rw [show catOf [] = plainN 1 from rfl] at HQ
          have hv2 : u3 = .slice none 0 0 ∨ ∃ g cap, u3 = .slice (some ⟨g, 0, none⟩) 0 cap := by
            rcases HK.out.ln.own.2 with ⟨h, _⟩ | ⟨g, cap, cur, h, _⟩
            · exact Or.inl h
            · exact Or.inr ⟨g, cap, h⟩
          rcases hv2 with rfl | ⟨gg, cap, rfl⟩
          all_goals
            go_wp2_with fail
            go_quiet (fail)
            go_wp2_with fail
            refine bodyPost_ret (results_node1 rfl _ _ w.heap.size (.int .i64 1) (.int .u64 0) (.int .u64 0) (.int .u64 0) (.int .u64 0) (.slice none 0 0) (.int .i64 0) (.int .i64 0) rfl (by (with_reducible (repeat (first | exact HK.out.zero | exact Blk.newAt (by simp) | apply Blk.alloc | apply Blk.put | apply Blk.putOther | apply Blk.other | apply Blk.drewN | apply Blk.drew | omega))))) rfl ?_
            exact ⟨by (with_reducible (repeat (first | exact HK.out.gr | apply Gr.alloc | apply Gr.put | apply Gr.own | apply Gr.new | apply Gr.drewN | apply Gr.drew | omega))), QAns.of (x := plainN 1) (plainN_lit _ _ 1 1 rfl) (by (with_reducible (repeat (first | exact HQ.out | apply QSt.alloc | apply QSt.put | apply QSt.other | apply QSt.drewN | omega))))⟩
        | cons x0 l2 =>
          cases vs with
          | nil => have := HK.out.ln.len; simp at this
          | cons v0 vs2 =>
          obtain ⟨gg, cap, hv, hcap, hgl, hcells, hnode⟩ := HK.out.ln.first
          cases l2 with
          | nil =>
            rw [show catOf [x0] = x0 from rfl] at HQ
            obtain ⟨c0, c1, c2, c3, c4, c5, c6, c7, hv0, q0, q1, q2, q3, q4, q5, q6, q7⟩ := hcells
            subst hv0
            obtain ⟨z, y0, y1, y2, y3, sa, sn, sc, lo, hi, hsh⟩ := hnode.shapeI
            injection hsh with hsh
            simp at hsh
            obtain ⟨rfl, rfl, rfl, rfl, rfl, rfl, rfl, rfl⟩ := hsh
            have HN := hidden (show NodeAt wr (w.heap.size + 1 ≤ ·) (.agg #[.int .i64 z, .int .u64 y0, .int .u64 y1, .int .u64 y2, .int .u64 y3, .slice sa sn sc, .int .i64 lo, .int .i64 hi]) x0 from hnode)
            rw [show ([] : List Nd).length + 1 = 1 from rfl] at hv hcap
            subst hv
            clear hnode
            go_wp2_with fail
            go_quiet (fail)
            go_wp2_with fail
            refine bodyPost_ret (results_node1 rfl _ _ w.heap.size (.int .i64 z) (.int .u64 y0) (.int .u64 y1) (.int .u64 y2) (.int .u64 y3) (.slice sa sn sc) (.int .i64 lo) (.int .i64 hi) rfl (by (with_reducible (repeat (first | exact HK.out.zero | exact Blk.newAt (by simp) | apply Blk.alloc | apply Blk.put | apply Blk.putOther | apply Blk.other | apply Blk.drewN | apply Blk.drew | omega))))) rfl ?_
            exact ⟨by (with_reducible (repeat (first | exact HK.out.gr | apply Gr.alloc | apply Gr.put | apply Gr.own | apply Gr.new | apply Gr.drewN | apply Gr.drew | omega))), QAns.of (x := x0) (by refine NodeAt.up (m := w.heap.size + 1) ?_ (by omega); (with_reducible (repeat (first | exact HN.out | apply NodeAt.alloc | apply NodeAt.putN | apply NodeAt.other | apply NodeAt.putO | apply NodeAt.otherO | apply NodeAt.drewN | apply NodeAt.drew | omega)))) (by (with_reducible (repeat (first | exact HQ.out | apply QSt.alloc | apply QSt.put | apply QSt.other | apply QSt.drewN | omega))))⟩
          | cons x1 l3 =>
            rw [show catOf (x0 :: x1 :: l3) = .mk 3 none_ (x0 :: x1 :: l3) 0 0 from catOf_many] at HQ
            have HKI := hidden HK.out.ln.kids
            obtain ⟨n3, hn3⟩ : ∃ n3, n3 = (x1 :: l3).length + 1 := ⟨_, rfl⟩
            rw [← hn3] at hv hcap
            have h2 : 2 ≤ n3 := by rw [hn3]; simp
            have h0i : ¬ (n3 : Int) = 0 := by omega
            have h0b : ((n3 : Int) == 0) = false := by rw [beq_eq_false_iff_ne]; exact h0i
            have h1i : ¬ (n3 : Int) = 1 := by omega
            have h1b : ((n3 : Int) == 1) = false := by rw [beq_eq_false_iff_ne]; exact h1i
            have HV := hidden hv
            have HN3 := hidden hn3
            subst hv
            clear hcells hnode hn3
            go_wp2_with fail
            go_quiet (fail)
            go_wp2_with fail
            refine bodyPost_ret (results_node1 rfl _ _ w.heap.size (.int .i64 3) (.int .u64 0) (.int .u64 0) (.int .u64 0) (.int .u64 0) (.slice (some ⟨gg, 0, none⟩) n3 cap) (.int .i64 0) (.int .i64 0) rfl (by (with_reducible (repeat (first | exact HK.out.zero | exact Blk.newAt (by simp) | apply Blk.alloc | apply Blk.put | apply Blk.putOther | apply Blk.other | apply Blk.drewN | apply Blk.drew | omega))))) rfl ?_
            refine ⟨by (with_reducible (repeat (first | exact HK.out.gr | apply Gr.alloc | apply Gr.put | apply Gr.own | apply Gr.new | apply Gr.drewN | apply Gr.drew | omega))), QAns.of (x := .mk 3 none_ (x0 :: x1 :: l3) 0 0) ?_ (by (with_reducible (repeat (first | exact HQ.out | apply QSt.alloc | apply QSt.put | apply QSt.other | apply QSt.drewN | omega))))⟩
            have h5 : NodeAt wr (w.heap.size + 1 ≤ ·) (nodeV 3 none_ (.slice (some ⟨gg, 0, none⟩) n3 cap) 0 0) (.mk 3 none_ (x0 :: x1 :: l3) 0 0) := HKI.out.shut 3 none_ 0 0
            unfold nodeV at h5
            rw [show word none_ 0 = 0 from word_none 0, show word none_ 1 = 0 from word_none 1, show word none_ 2 = 0 from word_none 2, show word none_ 3 = 0 from word_none 3] at h5
            refine NodeAt.up (m := w.heap.size + 1) ?_ (by omega)
            (with_reducible (repeat (first | exact h5 | apply NodeAt.alloc | apply NodeAt.putN | apply NodeAt.other | apply NodeAt.putO | apply NodeAt.otherO | apply NodeAt.drewN | apply NodeAt.drew | omega)))
    · obtain ⟨mm, mc, hF⟩ := hbm
      have HQ := hidden (show QSt wr R p k o (branchE g (p.drop k)) (catOf l) from Or.inr ⟨⟨mm, mc, hF⟩, hbad⟩)
      obtain ⟨kb, db, bb, cb, hrb, hbb, hcb⟩ := hbad
      have hbn : ¬ bb < 0 := by omega
      have hbd : decide (bb < 0) = false := decide_eq_false hbn
      have HRD := hidden hrb
      clear hF hcb hrb
      have hRl := HRD.out.lt
      have hZl := HK.out.zero.lt
      obtain ⟨r0, r1, r2, r3, r4⟩ := HRD.out.cells
      obtain ⟨t0, t1, t2, t3, t4⟩ := HRD.out.thawed
      obtain ⟨z0, z1, z2, z3, z4, z5, z6, z7⟩ := HK.out.zero.cells
      obtain ⟨f0, f1, f2, f3, f4, f5, f6, f7⟩ := HK.out.zero.thawed
      cases l with
      | nil =>
        rw [show catOf [] = plainN 1 from rfl] at HQ
        have hv2 : u3 = .slice none 0 0 ∨ ∃ g cap, u3 = .slice (some ⟨g, 0, none⟩) 0 cap := by
          rcases HK.out.ln.own.2 with ⟨h, _⟩ | ⟨g, cap, cur, h, _⟩
          · exact Or.inl h
          · exact Or.inr ⟨g, cap, h⟩
        rcases hv2 with rfl | ⟨gg, cap, rfl⟩
        all_goals
          go_wp2_with fail
          go_quiet (fail)
          go_wp2_with fail
          refine bodyPost_ret (results_node1 rfl _ _ w.heap.size (.int .i64 1) (.int .u64 0) (.int .u64 0) (.int .u64 0) (.int .u64 0) (.slice none 0 0) (.int .i64 0) (.int .i64 0) rfl (by (with_reducible (repeat (first | exact HK.out.zero | exact Blk.newAt (by simp) | apply Blk.alloc | apply Blk.put | apply Blk.putOther | apply Blk.other | apply Blk.drewN | apply Blk.drew | omega))))) rfl ?_
          exact ⟨by (with_reducible (repeat (first | exact HK.out.gr | apply Gr.alloc | apply Gr.put | apply Gr.own | apply Gr.new | apply Gr.drewN | apply Gr.drew | omega))), QAns.of (x := plainN 1) (plainN_lit _ _ 1 1 rfl) (by (with_reducible (repeat (first | exact HQ.out | apply QSt.alloc | apply QSt.put | apply QSt.other | apply QSt.drewN | omega))))⟩
      | cons x0 l2 =>
        cases vs with
        | nil => have := HK.out.ln.len; simp at this
        | cons v0 vs2 =>
        obtain ⟨gg, cap, hv, hcap, hgl, hcells, hnode⟩ := HK.out.ln.first
        cases l2 with
        | nil =>
          rw [show catOf [x0] = x0 from rfl] at HQ
          obtain ⟨c0, c1, c2, c3, c4, c5, c6, c7, hv0, q0, q1, q2, q3, q4, q5, q6, q7⟩ := hcells
          subst hv0
          obtain ⟨z, y0, y1, y2, y3, sa, sn, sc, lo, hi, hsh⟩ := hnode.shapeI
          injection hsh with hsh
          simp at hsh
          obtain ⟨rfl, rfl, rfl, rfl, rfl, rfl, rfl, rfl⟩ := hsh
          have HN := hidden (show NodeAt wr (w.heap.size + 1 ≤ ·) (.agg #[.int .i64 z, .int .u64 y0, .int .u64 y1, .int .u64 y2, .int .u64 y3, .slice sa sn sc, .int .i64 lo, .int .i64 hi]) x0 from hnode)
          rw [show ([] : List Nd).length + 1 = 1 from rfl] at hv hcap
          subst hv
          clear hnode
          go_wp2_with fail
          go_quiet (fail)
          go_wp2_with fail
          refine bodyPost_ret (results_node1 rfl _ _ w.heap.size (.int .i64 z) (.int .u64 y0) (.int .u64 y1) (.int .u64 y2) (.int .u64 y3) (.slice sa sn sc) (.int .i64 lo) (.int .i64 hi) rfl (by (with_reducible (repeat (first | exact HK.out.zero | exact Blk.newAt (by simp) | apply Blk.alloc | apply Blk.put | apply Blk.putOther | apply Blk.other | apply Blk.drewN | apply Blk.drew | omega))))) rfl ?_
          exact ⟨by (with_reducible (repeat (first | exact HK.out.gr | apply Gr.alloc | apply Gr.put | apply Gr.own | apply Gr.new | apply Gr.drewN | apply Gr.drew | omega))), QAns.of (x := x0) (by refine NodeAt.up (m := w.heap.size + 1) ?_ (by omega); (with_reducible (repeat (first | exact HN.out | apply NodeAt.alloc | apply NodeAt.putN | apply NodeAt.other | apply NodeAt.putO | apply NodeAt.otherO | apply NodeAt.drewN | apply NodeAt.drew | omega)))) (by (with_reducible (repeat (first | exact HQ.out | apply QSt.alloc | apply QSt.put | apply QSt.other | apply QSt.drewN | omega))))⟩
        | cons x1 l3 =>
          rw [show catOf (x0 :: x1 :: l3) = .mk 3 none_ (x0 :: x1 :: l3) 0 0 from catOf_many] at HQ
          have HKI := hidden HK.out.ln.kids
          obtain ⟨n3, hn3⟩ : ∃ n3, n3 = (x1 :: l3).length + 1 := ⟨_, rfl⟩
          rw [← hn3] at hv hcap
          have h2 : 2 ≤ n3 := by rw [hn3]; simp
          have h0i : ¬ (n3 : Int) = 0 := by omega
          have h0b : ((n3 : Int) == 0) = false := by rw [beq_eq_false_iff_ne]; exact h0i
          have h1i : ¬ (n3 : Int) = 1 := by omega
          have h1b : ((n3 : Int) == 1) = false := by rw [beq_eq_false_iff_ne]; exact h1i
          have HV := hidden hv
          have HN3 := hidden hn3
          subst hv
          clear hcells hnode hn3
          go_wp2_with fail
          go_quiet (fail)
          go_wp2_with fail
          refine bodyPost_ret (results_node1 rfl _ _ w.heap.size (.int .i64 3) (.int .u64 0) (.int .u64 0) (.int .u64 0) (.int .u64 0) (.slice (some ⟨gg, 0, none⟩) n3 cap) (.int .i64 0) (.int .i64 0) rfl (by (with_reducible (repeat (first | exact HK.out.zero | exact Blk.newAt (by simp) | apply Blk.alloc | apply Blk.put | apply Blk.putOther | apply Blk.other | apply Blk.drewN | apply Blk.drew | omega))))) rfl ?_
          refine ⟨by (with_reducible (repeat (first | exact HK.out.gr | apply Gr.alloc | apply Gr.put | apply Gr.own | apply Gr.new | apply Gr.drewN | apply Gr.drew | omega))), QAns.of (x := .mk 3 none_ (x0 :: x1 :: l3) 0 0) ?_ (by (with_reducible (repeat (first | exact HQ.out | apply QSt.alloc | apply QSt.put | apply QSt.other | apply QSt.drewN | omega))))⟩
          have h5 : NodeAt wr (w.heap.size + 1 ≤ ·) (nodeV 3 none_ (.slice (some ⟨gg, 0, none⟩) n3 cap) 0 0) (.mk 3 none_ (x0 :: x1 :: l3) 0 0) := HKI.out.shut 3 none_ 0 0
          unfold nodeV at h5
          rw [show word none_ 0 = 0 from word_none 0, show word none_ 1 = 0 from word_none 1, show word none_ 2 = 0 from word_none 2, show word none_ 3 = 0 from word_none 3] at h5
          refine NodeAt.up (m := w.heap.size + 1) ?_ (by omega)
          (with_reducible (repeat (first | exact h5 | apply NodeAt.alloc | apply NodeAt.putN | apply NodeAt.other | apply NodeAt.putO | apply NodeAt.otherO | apply NodeAt.drewN | apply NodeAt.drew | omega)))

end Go.Proofs.Ytjlihidmohokhaa
