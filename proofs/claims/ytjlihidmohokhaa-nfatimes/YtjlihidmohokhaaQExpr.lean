/-
  What the document's own branches answer: branches with a sign between; by induction on how many brackets may be within one another, of atom, piece, branch and branches; conditions: the text's length, and that the reader's block holds it.
-/
import Derived.Test.YtjlihidmohokhaaQBranch
namespace Go.Proofs.Ytjlihidmohokhaa
open Go.RowKit Go.Proofs.Ytjlihidmohokhaa.Gl

/-- a list of one node in a new block -/
theorem LN.one {B b : Nat} {W : World} {x : Nd} {c0 c1 c2 c3 c4 c5 c6 c7 : Value} (hb : Blk W b c0 c1 c2 c3 c4 c5 c6 c7) (hB : B ≤ b) (hn : NodeAt W (fun g => B ≤ g ∧ some g ≠ some b) (.agg #[c0, c1, c2, c3, c4, c5, c6, c7]) x) : LN B (.slice (some ⟨b, 0, none⟩) 1 1) [.agg #[c0, c1, c2, c3, c4, c5, c6, c7]] [x] W := by
  refine ⟨rfl, ⟨rfl, Or.inr ⟨b, 1, #[c0, c1, c2, c3, c4, c5, c6, c7], rfl, hB, hb, Nat.le_refl _, by unfold maxLen; omega, rfl, rfl⟩⟩, fun u hu => by rw [List.mem_singleton.1 hu]; exact hn.eight, fun j u d hu hd => ?_⟩
  cases j with
  | zero =>
    simp at hu hd
    rw [← hu, ← hd]
    exact hn
  | succ j => simp at hu

set_option maxHeartbeats 8000000 in
theorem qexpr_any (g : Tx → Rs Nd) (o : Nat) (hg : Tame g) (hbr : QReadsTo 27 (branchE g) (o : Int)) : QReadsTo 21 (exprE g) (o : Int) := by
  intro p k R w hp hk hr
  have hR := hr.lt
  have HR0 := hidden hr
  have HZ0 := hidden (Blk.new w (.int .i64 0) (.int .u64 0) (.int .u64 0) (.int .u64 0) (.int .u64 0) (.slice none 0 0) (.int .i64 0) (.int .i64 0))
  have HX := hidden hbr
  have HT := hidden hg
  have HT0 := hidden (branchE_le hg (p.drop k))
  clear hr hbr hg
  go_enter Try.func21, Try.ntmps21
  go_wp2_with fail
  refine (HX.out p k R _ hp hk (by (with_reducible (repeat (first | exact HR0.out | apply RqAt.alloc | apply RqAt.put | apply RqAt.set1 | apply RqAt.set1i | apply RqAt.set2 | apply RqAt.set2i | apply RqAt.set3 | apply RqAt.set4 | apply RqAt.other | apply RqAt.drewN | apply RqAt.drew | exact (Int.natCast_succ _).symm | omega))))).mono ?_
  rintro e w1 ⟨hg1, ha1⟩
  have hs1 : w.heap.size + 1 ≤ w1.heap.size := by have := hg1.size; simpa using this
  have HG1 := hidden (Gr.tr (a := w) (by (with_reducible (repeat (first | exact Gr.refl _ _ | apply Gr.alloc | apply Gr.put | apply Gr.own | apply Gr.new | apply Gr.drewN | apply Gr.drew | omega)))) hg1)
  have HZ1 := hidden (ZeroAt.gr (b := w.heap.size) (by (with_reducible (repeat (first | exact HZ0.out | exact Blk.newAt (by simp) | apply Blk.alloc | apply Blk.put | apply Blk.putOther | apply Blk.other | apply Blk.drewN | apply Blk.drew | omega)))) hg1 (by omega))
  obtain ⟨v, x0, rfl, hn1, hst⟩ := ha1.out
  obtain ⟨z, y0, y1, y2, y3, sa, sn, sc, lo, hi, rfl⟩ := hn1.shapeI
  have HN1 := hidden (show NodeAt w1 (fun g => w.heap.size + 1 ≤ g ∧ some g ≠ some w1.heap.size) (.agg #[.int .i64 z, .int .u64 y0, .int .u64 y1, .int .u64 y2, .int .u64 y3, .slice sa sn sc, .int .i64 lo, .int .i64 hi]) x0 from hn1.keep fun b hA hlt => ⟨rfl, by have h5 : (w.alloc (.cells #[.int .i64 0, .int .u64 0, .int .u64 0, .int .u64 0, .int .u64 0, .slice none 0 0, .int .i64 0, .int .i64 0] 26)).heap.size ≤ b := hA; simpa using h5, fun e => by cases e; omega⟩)
  have HST := hidden hst
  clear hg1 hn1 ha1 hst
  go_wp2_with fail
  go_loopw [3] (fun v wr => ∃ (vs : List Value) (l : List Nd), l ≠ [] ∧ l.length ≤ p.length + 1 ∧ Hid (BQ w R v vs l wr ∧ ((∃ q n : Nat, q ≤ p.length ∧ k ≤ q ∧ l.length ≤ q - k + 1 ∧ RqAt wr R p q o (-1) 0 ∧ p.length - q ≤ n ∧ branchesE g ((p.drop k).length + 1) (p.drop k) = if (p.drop q).getD 0 0 = 124 then ((branchesE g n (p.drop (q + 1))).map (l ++ ·)).far (q + 1 - k) else .ok l (q - k)) ∨ BadAt wr R p ∧ ∃ m c, exprE g (p.drop k) = .er m c)))
    (fun _ wr => lifeOf wr R p.length)
  case atStart =>
    refine ⟨[.agg #[.int .i64 z, .int .u64 y0, .int .u64 y1, .int .u64 y2, .int .u64 y3, .slice sa sn sc, .int .i64 lo, .int .i64 hi]], [x0], by simp, by simp, ⟨by (with_reducible (repeat (first | exact HG1.out | apply Gr.alloc | apply Gr.put | apply Gr.own | apply Gr.new | apply Gr.drewN | apply Gr.drew | omega))), by (with_reducible (repeat (first | exact HZ1.out | exact Blk.newAt (by simp) | apply Blk.alloc | apply Blk.put | apply Blk.putOther | apply Blk.other | apply Blk.drewN | apply Blk.drew | omega))), ?_⟩, ?_⟩
    · refine LN.one (Blk.newAt rfl) (by omega) ?_
      exact HN1.out.alloc _
    · rcases HST.out with ⟨m0, hx, hr1⟩ | ⟨⟨m, c, hx⟩, hb⟩
      · have hm := HT0.out
        rw [hx, List.length_drop] at hm
        have hm1 : m0 ≤ p.length - k := hm
        refine Or.inl ⟨k + m0, (p.drop k).length, by omega, by omega, by show 1 ≤ k + m0 - k + 1; omega, by (with_reducible (repeat (first | exact hr1 | apply RqAt.alloc | apply RqAt.put | apply RqAt.set1 | apply RqAt.set1i | apply RqAt.set2 | apply RqAt.set2i | apply RqAt.set3 | apply RqAt.set4 | apply RqAt.other | apply RqAt.drewN | apply RqAt.drew | exact (Int.natCast_succ _).symm | omega))), by rw [List.length_drop]; omega, ?_⟩
        rw [branchesE, hx]
        simp only []
        rw [List.drop_drop, List.drop_drop, show k + (m0 + 1) = k + m0 + 1 by omega, show k + m0 + 1 - k = m0 + 1 by omega, show k + m0 - k = m0 by omega]
        rfl
      · refine Or.inr ⟨hb.keep (Below.heap_alloc _ _ _ hb.lt), m, c, ?_⟩
        unfold exprE
        rw [branchesE, hx]
        rfl
  case round =>
    obtain ⟨vs, l, hlne, hlp, hK0, hcase⟩ := hrel
    have HK := hidden hK0
    clear hK0
    rcases hcase with ⟨q, n, hq, hkq, hll, hr0, hn, hpost⟩ | ⟨hbad, hbm⟩
    · have HRD := hidden hr0
      have HP := hidden hpost
      clear hr0 hpost
      cases hmb : ((p.drop q).getD 0 0 == 124) with
      | false =>
        have HM := hidden ((meetB_is p q 124 (by decide)).trans hmb)
        have HQ := hidden (show QSt wr R p k o (exprE g (p.drop k)) (together 4 l) from Or.inl ⟨q - k, by unfold exprE; rw [HP.out, if_neg (by simpa using hmb)]; rfl, by rw [show k + (q - k) = q by omega]; exact HRD.out⟩)
        clear hmb
        obtain ⟨z0, z1, z2, z3, z4, z5, z6, z7⟩ := HK.out.zero.cells
        obtain ⟨f0, f1, f2, f3, f4, f5, f6, f7⟩ := HK.out.zero.thawed
        have hZl := HK.out.zero.lt
        cases l with
        | nil =>
          exact absurd rfl hlne
        | cons x0 l2 =>
          cases vs with
          | nil => have := HK.out.ln.len; simp at this
          | cons v0 vs2 =>
          obtain ⟨gg, cap, hv, hcap, hgl, hcells, hnode⟩ := HK.out.ln.first
          cases l2 with
          | nil =>
            rw [show together 4 [x0] = x0 from rfl] at HQ
            obtain ⟨c0, c1, c2, c3, c4, c5, c6, c7, hv0, q0, q1, q2, q3, q4, q5, q6, q7⟩ := hcells
            subst hv0
            obtain ⟨z, y0, y1, y2, y3, sa, sn, sc, lo, hi, hsh⟩ := hnode.shapeI
            injection hsh with hsh
            simp at hsh
            obtain ⟨rfl, rfl, rfl, rfl, rfl, rfl, rfl, rfl⟩ := hsh
            have HN := hidden (show NodeAt wr (w.heap.size + 1 ≤ ·) (.agg #[.int .i64 z, .int .u64 y0, .int .u64 y1, .int .u64 y2, .int .u64 y3, .slice sa sn sc, .int .i64 lo, .int .i64 hi]) x0 from hnode)
            rw [show ([] : List Nd).length + 1 = 1 from rfl] at hv hcap
            subst hv
            clear hnode
            go_wp2_with fail
            refine (is_good p q R _ 124 _ (by omega) HRD.out).mono ?_
            rintro e wx ⟨rfl, nq, rfl⟩
            rw [HM.out]
            go_wp2_with fail
            refine bodyPost_ret (results_node1 rfl _ _ w.heap.size (.int .i64 z) (.int .u64 y0) (.int .u64 y1) (.int .u64 y2) (.int .u64 y3) (.slice sa sn sc) (.int .i64 lo) (.int .i64 hi) rfl (by (with_reducible (repeat (first | exact HK.out.zero | exact Blk.newAt (by simp) | apply Blk.alloc | apply Blk.put | apply Blk.putOther | apply Blk.other | apply Blk.drewN | apply Blk.drew | omega))))) rfl ?_
            exact ⟨by (with_reducible (repeat (first | exact HK.out.gr | apply Gr.alloc | apply Gr.put | apply Gr.own | apply Gr.new | apply Gr.drewN | apply Gr.drew | omega))), QAns.of (x := x0) (by refine NodeAt.up (m := w.heap.size + 1) ?_ (by omega); (with_reducible (repeat (first | exact HN.out | apply NodeAt.alloc | apply NodeAt.putN | apply NodeAt.other | apply NodeAt.putO | apply NodeAt.otherO | apply NodeAt.drewN | apply NodeAt.drew | omega)))) (by (with_reducible (repeat (first | exact HQ.out | apply QSt.alloc | apply QSt.put | apply QSt.other | apply QSt.drewN | omega))))⟩
          | cons x1 l3 =>
            rw [show together 4 (x0 :: x1 :: l3) = .mk 4 none_ (x0 :: x1 :: l3) 0 0 from rfl] at HQ
            have HKI := hidden HK.out.ln.kids
            obtain ⟨n3, hn3⟩ : ∃ n3, n3 = (x1 :: l3).length + 1 := ⟨_, rfl⟩
            rw [← hn3] at hv hcap
            have h2 : 2 ≤ n3 := by rw [hn3]; simp
            have h0i : ¬ (n3 : Int) = 0 := by omega
            have h0b : ((n3 : Int) == 0) = false := by rw [beq_eq_false_iff_ne]; exact h0i
            have h1i : ¬ (n3 : Int) = 1 := by omega
            have h1b : ((n3 : Int) == 1) = false := by rw [beq_eq_false_iff_ne]; exact h1i
            have HV := hidden hv
            have HN3 := hidden hn3
            subst hv
            clear hcells hnode hn3
            go_wp2_with fail
            refine (is_good p q R _ 124 _ (by omega) HRD.out).mono ?_
            rintro e wx ⟨rfl, nq, rfl⟩
            rw [HM.out]
            go_wp2_with fail
            refine bodyPost_ret (results_node1 rfl _ _ w.heap.size (.int .i64 4) (.int .u64 0) (.int .u64 0) (.int .u64 0) (.int .u64 0) (.slice (some ⟨gg, 0, none⟩) n3 cap) (.int .i64 0) (.int .i64 0) rfl (by (with_reducible (repeat (first | exact HK.out.zero | exact Blk.newAt (by simp) | apply Blk.alloc | apply Blk.put | apply Blk.putOther | apply Blk.other | apply Blk.drewN | apply Blk.drew | omega))))) rfl ?_
            refine ⟨by (with_reducible (repeat (first | exact HK.out.gr | apply Gr.alloc | apply Gr.put | apply Gr.own | apply Gr.new | apply Gr.drewN | apply Gr.drew | omega))), QAns.of (x := .mk 4 none_ (x0 :: x1 :: l3) 0 0) ?_ (by (with_reducible (repeat (first | exact HQ.out | apply QSt.alloc | apply QSt.put | apply QSt.other | apply QSt.drewN | omega))))⟩
            have h5 : NodeAt wr (w.heap.size + 1 ≤ ·) (nodeV 4 none_ (.slice (some ⟨gg, 0, none⟩) n3 cap) 0 0) (.mk 4 none_ (x0 :: x1 :: l3) 0 0) := HKI.out.shut 4 none_ 0 0
            unfold nodeV at h5
            rw [show word none_ 0 = 0 from word_none 0, show word none_ 1 = 0 from word_none 1, show word none_ 2 = 0 from word_none 2, show word none_ 3 = 0 from word_none 3] at h5
            refine NodeAt.up (m := w.heap.size + 1) ?_ (by omega)
            (with_reducible (repeat (first | exact h5 | apply NodeAt.alloc | apply NodeAt.putN | apply NodeAt.other | apply NodeAt.putO | apply NodeAt.otherO | apply NodeAt.drewN | apply NodeAt.drew | omega)))
      | true =>
        have HM := hidden ((meetB_is p q 124 (by decide)).trans hmb)
        have h124 : (p.drop q).getD 0 0 = 124 := by simpa using hmb
        have hlt : q < p.length := by
          have := getD_pos h124 (by decide)
          rw [List.length_drop] at this
          omega
        obtain ⟨n, rfl⟩ : ∃ m, n = m + 1 := ⟨n - 1, by omega⟩
        have HP1 := hidden (show branchesE g ((p.drop k).length + 1) (p.drop k) = ((match branchE g (p.drop (q + 1)) with | .er m c => (Rs.er m c : Rs (List Nd)) | .ok d m => if ((p.drop (q + 1)).drop m).getD 0 0 = 124 then ((branchesE g n ((p.drop (q + 1)).drop (m + 1))).map (d :: ·)).far (m + 1) else .ok [d] m).map (l ++ ·)).far (q + 1 - k) by
          rw [HP.out, if_pos h124, branchesE]
          cases branchE g (p.drop (q + 1)) <;> rfl)
        have HTM := hidden (branchE_le HT.out (p.drop (q + 1)))
        clear hmb h124
        go_wp2_with fail
        refine (is_good p q R _ 124 _ (by omega) HRD.out).mono ?_
        rintro e wx ⟨rfl, nq, rfl⟩
        rw [HM.out]
        obtain ⟨W2, hW2⟩ : ∃ W, W = wr.drewN nq := ⟨_, rfl⟩
        rw [← hW2]
        have HK2 := hidden (show BQ w R u3 vs l W2 by rw [hW2]; exact HK.out.drewN _)
        have HRD2 := hidden (show RqAt W2 R p q o (-1) 0 by rw [hW2]; exact HRD.out.drewN _)
        clear hW2
        have hRl := HRD2.out.lt
        obtain ⟨r0, r1, r2, r3, r4⟩ := HRD2.out.cells
        obtain ⟨t0, t1, t2, t3, t4⟩ := HRD2.out.thawed
        go_wp2_with fail
        refine (HX.out p (q + 1) R _ hp (by omega) (by (with_reducible (repeat (first | exact HRD2.out | apply RqAt.alloc | apply RqAt.put | apply RqAt.set1 | apply RqAt.set1i | apply RqAt.set2 | apply RqAt.set2i | apply RqAt.set3 | apply RqAt.set4 | apply RqAt.other | apply RqAt.drewN | apply RqAt.drew | exact (Int.natCast_succ _).symm | omega))))).mono ?_
        rintro e w1 ⟨hg1, ha1⟩
        have hs1 : W2.heap.size ≤ w1.heap.size := by have := hg1.size; simpa using this
        have HG1 := hidden (Gr.tr (a := w) (by (with_reducible (repeat (first | exact HK2.out.gr | apply Gr.alloc | apply Gr.put | apply Gr.own | apply Gr.new | apply Gr.drewN | apply Gr.drew | omega)))) hg1)
        have HZ1 := hidden (ZeroAt.gr (b := w.heap.size) (by (with_reducible (repeat (first | exact HK2.out.zero | exact Blk.newAt (by simp) | apply Blk.alloc | apply Blk.put | apply Blk.putOther | apply Blk.other | apply Blk.drewN | apply Blk.drew | omega)))) hg1 (by omega))
        have HL1 := hidden (LN.gr (B := w.heap.size + 1) (v := u3) (vs := vs) (l := l) (by (with_reducible (repeat (first | exact HK2.out.ln | apply LN.alloc | apply LN.put | apply LN.other | apply LN.drewN | apply LN.drew | omega)))) hg1 (by omega))
        obtain ⟨u, x, rfl, hn1, hst⟩ := ha1.out
        obtain ⟨z, y0, y1, y2, y3, sa, sn, sc, lo, hi, rfl⟩ := hn1.shapeI
        have hown := HK2.out.ln.lt
        have hzl0 := HK2.out.zero.lt
        have HN1 := hidden (show NodeAt w1 (fun b => w.heap.size + 1 ≤ b ∧ some b ≠ u3.ownBlock) (.agg #[.int .i64 z, .int .u64 y0, .int .u64 y1, .int .u64 y2, .int .u64 y3, .slice sa sn sc, .int .i64 lo, .int .i64 hi]) x from hn1.keep fun b hA _ => ⟨rfl, by have h6 : W2.heap.size ≤ b := (by simpa using hA); omega, fun e => by have h5 := (hown b e.symm).2; have h6 : W2.heap.size ≤ b := (by simpa using hA); omega⟩)
        have HST := hidden hst
        have hlen2 : l.length < 1048576 := by omega
        have hlt1 : w.heap.size + 1 ≤ w1.heap.size := by omega
        clear hg1 hn1 ha1 hst hown hs1 hRl r0 r1 r2 r3 r4 t0 t1 t2 t3 t4
        go_wp2_with (at_builtin; go_must (refine wpList_append_node _ (by go_simp) (.tmp 16) (.tmp 19) rfl (w.heap.size + 1) _ u3 vs l x (.int .i64 z) (.int .u64 y0) (.int .u64 y1) (.int .u64 y2) (.int .u64 y3) (.slice sa sn sc) (.int .i64 lo) (.int .i64 hi) rfl rfl (by (with_reducible (repeat (first | exact HL1.out | apply LN.alloc | apply LN.put | apply LN.other | apply LN.drewN | apply LN.drew | omega)))) (HN1.out.alloc _) (eight_new _ _ _ _ _ _ _ _ _ _ _ (by simp)) hlen2 (by simp; omega) ?_; intro v9 w9 hln9 hg9))
        have hown9 := HL1.out.lt
        have HG9 := hidden (Gr.grown (R := R) (w := w) (by (with_reducible (repeat (first | exact HG1.out | apply Gr.alloc | apply Gr.put | apply Gr.own | apply Gr.new | apply Gr.drewN | apply Gr.drew | omega)))) hg9 (fun j hj => by have := (hown9 j hj).1; omega))
        have HR9 := hidden (show w9.heap[R]? = w1.heap[R]? from (hg9.block R (by have := HG1.out.size; simp; omega) (fun e => by have := (hown9 R e.symm).1; omega)).trans (Below.heap_alloc _ _ _ (by have := HG1.out.size; omega)))
        have HZ9 := hidden (show ZeroAt w9 w.heap.size from by
          refine Blk.keep (w := _) (by (with_reducible (repeat (first | exact HZ1.out | exact Blk.newAt (by simp) | apply Blk.alloc | apply Blk.put | apply Blk.putOther | apply Blk.other | apply Blk.drewN | apply Blk.drew | omega)))) (hg9.block _ (by have := HZ1.out.lt; simp; omega) (fun e => by have := (hown9 _ e.symm).1; omega)))
        have HL9 := hidden hln9
        clear hln9 hg9 hown9
        go_wp2_with fail
        go_roundw
        case rel =>
          refine ⟨vs ++ [.agg #[.int .i64 z, .int .u64 y0, .int .u64 y1, .int .u64 y2, .int .u64 y3, .slice sa sn sc, .int .i64 lo, .int .i64 hi]], l ++ [x], by simp, by rw [List.length_append]; show l.length + 1 ≤ p.length + 1; omega, ⟨HG9.out, HZ9.out, HL9.out⟩, ?_⟩
          rcases HST.out with ⟨m, hx, hr1⟩ | ⟨⟨m, c2, hx⟩, hb⟩
          · have hm := HTM.out
            rw [hx, List.length_drop] at hm
            have hm1 : m ≤ p.length - (q + 1) := hm
            refine Or.inl ⟨q + 1 + m, n, by omega, by omega, by rw [List.length_append]; show l.length + 1 ≤ q + 1 + m - k + 1; omega, hr1.keep HR9.out, by omega, ?_⟩
            rw [HP1.out, hx]
            simp only []
            rw [List.drop_drop, List.drop_drop, show q + 1 + (m + 1) = q + 1 + m + 1 by omega]
            split
            · rw [map_far, far_far, map_map, show q + 1 - k + (m + 1) = q + 1 + m + 1 - k by omega]
              congr 2
              funext t
              simp
            · simp only [Rs.map, Rs.far]
              congr 1
              omega
          · exact Or.inr ⟨hb.keep HR9.out, q + 1 - k + m, c2, by unfold exprE; rw [HP1.out, hx]; rfl⟩
        case measure =>
          rcases HST.out with ⟨m, hx, hr1⟩ | ⟨⟨m, c2, hx⟩, hb⟩
          · have hm := HTM.out
            rw [hx, List.length_drop] at hm
            have hm1 : m ≤ p.length - (q + 1) := hm
            exact RqAt.less (p := p) (k := q) (k' := q + 1 + m) (hr1.keep HR9.out) HRD.out (by omega) (by omega)
          · exact BadAt.less (p := p) (k := q) (hb.keep HR9.out) HRD.out (by omega)
    · obtain ⟨mm, mc, hF⟩ := hbm
      have HQ := hidden (show QSt wr R p k o (exprE g (p.drop k)) (together 4 l) from Or.inr ⟨⟨mm, mc, hF⟩, hbad⟩)
      obtain ⟨kb, db, bb, cb, hrb, hbb, hcb⟩ := hbad
      have HRD := hidden hrb
      clear hF hcb hrb
      obtain ⟨z0, z1, z2, z3, z4, z5, z6, z7⟩ := HK.out.zero.cells
      obtain ⟨f0, f1, f2, f3, f4, f5, f6, f7⟩ := HK.out.zero.thawed
      have hZl := HK.out.zero.lt
      cases l with
      | nil =>
        exact absurd rfl hlne
      | cons x0 l2 =>
        cases vs with
        | nil => have := HK.out.ln.len; simp at this
        | cons v0 vs2 =>
        obtain ⟨gg, cap, hv, hcap, hgl, hcells, hnode⟩ := HK.out.ln.first
        cases l2 with
        | nil =>
          rw [show together 4 [x0] = x0 from rfl] at HQ
          obtain ⟨c0, c1, c2, c3, c4, c5, c6, c7, hv0, q0, q1, q2, q3, q4, q5, q6, q7⟩ := hcells
          subst hv0
          obtain ⟨z, y0, y1, y2, y3, sa, sn, sc, lo, hi, hsh⟩ := hnode.shapeI
          injection hsh with hsh
          simp at hsh
          obtain ⟨rfl, rfl, rfl, rfl, rfl, rfl, rfl, rfl⟩ := hsh
          have HN := hidden (show NodeAt wr (w.heap.size + 1 ≤ ·) (.agg #[.int .i64 z, .int .u64 y0, .int .u64 y1, .int .u64 y2, .int .u64 y3, .slice sa sn sc, .int .i64 lo, .int .i64 hi]) x0 from hnode)
          rw [show ([] : List Nd).length + 1 = 1 from rfl] at hv hcap
          subst hv
          clear hnode
          go_wp2_with fail
          refine (is_bad p kb db bb cb R 124 _ HRD.out hbb).mono ?_
          rintro e wx ⟨rfl, nq, rfl⟩
          go_wp2_with fail
          refine bodyPost_ret (results_node1 rfl _ _ w.heap.size (.int .i64 z) (.int .u64 y0) (.int .u64 y1) (.int .u64 y2) (.int .u64 y3) (.slice sa sn sc) (.int .i64 lo) (.int .i64 hi) rfl (by (with_reducible (repeat (first | exact HK.out.zero | exact Blk.newAt (by simp) | apply Blk.alloc | apply Blk.put | apply Blk.putOther | apply Blk.other | apply Blk.drewN | apply Blk.drew | omega))))) rfl ?_
          exact ⟨by (with_reducible (repeat (first | exact HK.out.gr | apply Gr.alloc | apply Gr.put | apply Gr.own | apply Gr.new | apply Gr.drewN | apply Gr.drew | omega))), QAns.of (x := x0) (by refine NodeAt.up (m := w.heap.size + 1) ?_ (by omega); (with_reducible (repeat (first | exact HN.out | apply NodeAt.alloc | apply NodeAt.putN | apply NodeAt.other | apply NodeAt.putO | apply NodeAt.otherO | apply NodeAt.drewN | apply NodeAt.drew | omega)))) (by (with_reducible (repeat (first | exact HQ.out | apply QSt.alloc | apply QSt.put | apply QSt.other | apply QSt.drewN | omega))))⟩
        | cons x1 l3 =>
          rw [show together 4 (x0 :: x1 :: l3) = .mk 4 none_ (x0 :: x1 :: l3) 0 0 from rfl] at HQ
          have HKI := hidden HK.out.ln.kids
          obtain ⟨n3, hn3⟩ : ∃ n3, n3 = (x1 :: l3).length + 1 := ⟨_, rfl⟩
          rw [← hn3] at hv hcap
          have h2 : 2 ≤ n3 := by rw [hn3]; simp
          have h0i : ¬ (n3 : Int) = 0 := by omega
          have h0b : ((n3 : Int) == 0) = false := by rw [beq_eq_false_iff_ne]; exact h0i
          have h1i : ¬ (n3 : Int) = 1 := by omega
          have h1b : ((n3 : Int) == 1) = false := by rw [beq_eq_false_iff_ne]; exact h1i
          have HV := hidden hv
          have HN3 := hidden hn3
          subst hv
          clear hcells hnode hn3
          go_wp2_with fail
          refine (is_bad p kb db bb cb R 124 _ HRD.out hbb).mono ?_
          rintro e wx ⟨rfl, nq, rfl⟩
          go_wp2_with fail
          refine bodyPost_ret (results_node1 rfl _ _ w.heap.size (.int .i64 4) (.int .u64 0) (.int .u64 0) (.int .u64 0) (.int .u64 0) (.slice (some ⟨gg, 0, none⟩) n3 cap) (.int .i64 0) (.int .i64 0) rfl (by (with_reducible (repeat (first | exact HK.out.zero | exact Blk.newAt (by simp) | apply Blk.alloc | apply Blk.put | apply Blk.putOther | apply Blk.other | apply Blk.drewN | apply Blk.drew | omega))))) rfl ?_
          refine ⟨by (with_reducible (repeat (first | exact HK.out.gr | apply Gr.alloc | apply Gr.put | apply Gr.own | apply Gr.new | apply Gr.drewN | apply Gr.drew | omega))), QAns.of (x := .mk 4 none_ (x0 :: x1 :: l3) 0 0) ?_ (by (with_reducible (repeat (first | exact HQ.out | apply QSt.alloc | apply QSt.put | apply QSt.other | apply QSt.drewN | omega))))⟩
          have h5 : NodeAt wr (w.heap.size + 1 ≤ ·) (nodeV 4 none_ (.slice (some ⟨gg, 0, none⟩) n3 cap) 0 0) (.mk 4 none_ (x0 :: x1 :: l3) 0 0) := HKI.out.shut 4 none_ 0 0
          unfold nodeV at h5
          rw [show word none_ 0 = 0 from word_none 0, show word none_ 1 = 0 from word_none 1, show word none_ 2 = 0 from word_none 2, show word none_ 3 = 0 from word_none 3] at h5
          refine NodeAt.up (m := w.heap.size + 1) ?_ (by omega)
          (with_reducible (repeat (first | exact h5 | apply NodeAt.alloc | apply NodeAt.putN | apply NodeAt.other | apply NodeAt.putO | apply NodeAt.otherO | apply NodeAt.drewN | apply NodeAt.drew | omega)))

/-- all readers, where so many more brackets may be within one another -/
theorem qexpr_of (d o : Nat) (hat : QReads 47 (atomE (grpE d)) (o : Int)) : QReadsTo 21 (exprE (grpE d)) (o : Int) :=
  qexpr_any _ o (grpE_tame d) (qbranch_any _ o (grpE_tame d) (qpiece_any _ o (grpE_tame d) hat))
theorem qexpr_all (d : Nat) : ∀ o, o + d = 30 → QReadsTo 21 (exprE (grpE d)) (o : Int) := by
  induction d with
  | zero => intro o ho; exact qexpr_of 0 o (qatom_any 0 o ho (fun d' h => by omega))
  | succ d ih => intro o ho; exact qexpr_of (d + 1) o (qatom_any (d + 1) o ho (fun d' h => by cases h; exact ih (o + 1) (by omega)))

end Go.Proofs.Ytjlihidmohokhaa
