/-
  What the document's own piece answers, where its atom answers as it should: an atom, and how many times it comes; conditions: the text's length, and that the reader's block holds it.
-/
import Derived.Test.YtjlihidmohokhaaQAtom
namespace Go.Proofs.Ytjlihidmohokhaa
open Go.RowKit Go.Proofs.Ytjlihidmohokhaa.Gl

/-- a reading's answer: a node in new memory, and how the reader stands -/
def QSt (w' : World) (R : Nat) (p : Tx) (k : Nat) (d : Int) (r : Rs Nd) (x : Nd) : Prop := (∃ m, r = .ok x m ∧ RqAt w' R p (k + m : Nat) d (-1) 0) ∨ (∃ m c, r = .er m c) ∧ BadAt w' R p
theorem QAns.out {w w' : World} {e : Ending} {R : Nat} {p : Tx} {k : Nat} {d : Int} {r : Rs Nd} (h : QAns w w' e R p k d r) : ∃ v x, e = .returned v ∧ NodeAt w' (w.heap.size ≤ ·) v x ∧ QSt w' R p k d r x := by
  cases r with
  | ok x m =>
    obtain ⟨v, he, hn, hr⟩ := h
    exact ⟨v, x, he, hn, Or.inl ⟨m, rfl, hr⟩⟩
  | er m c =>
    obtain ⟨v, x, he, hn, hb⟩ := h
    exact ⟨v, x, he, hn, Or.inr ⟨⟨m, c, rfl⟩, hb⟩⟩
theorem NodeAt.grO {w w' : World} {R n N : Nat} {v : Value} {x : Nd} (h : NodeAt w (Off n N) v x) (hg : Gr R w w') (hR : R < n) : NodeAt w' (Off n N) v x :=
  h.keep fun b hA hlt => ⟨hg.same hlt (by have := hA.1; omega), hA⟩
/-- how long the reader may still go on -/
def lifeOf (w : World) (R L : Nat) : Nat := match w.cell? ⟨R, 3, none⟩ with | some v => if intOf v < 0 then L + 1 - posOf w R else 0 | none => 0
theorem RqAt.life {w : World} {R : Nat} {p : Tx} {k : Nat} {d c : Int} (h : RqAt w R p k d (-1) c) (L : Nat) : lifeOf w R L = L + 1 - k := by
  unfold lifeOf
  rw [h.cells.2.2.2.1, h.pos]
  simp [intOf]
theorem BadAt.life {w : World} {R : Nat} {p : Tx} (h : BadAt w R p) (L : Nat) : lifeOf w R L = 0 := by
  obtain ⟨k, d, b, c, hr, hb, _⟩ := h
  unfold lifeOf
  rw [hr.cells.2.2.2.1]
  show (if intOf (.int .i64 b) < 0 then L + 1 - posOf w R else 0) = 0
  rw [if_neg (by simp [intOf]; omega)]
theorem RqAt.less {w w' : World} {R : Nat} {p : Tx} {k k' : Nat} {d c d' c' : Int} (h' : RqAt w' R p k' d' (-1) c') (h : RqAt w R p k d (-1) c) (hk : k < k') (hp : k' ≤ p.length) : lifeOf w' R p.length < lifeOf w R p.length := by
  rw [h.life, h'.life]; omega
theorem BadAt.less {w w' : World} {R : Nat} {p : Tx} {k : Nat} {d c : Int} (h' : BadAt w' R p) (h : RqAt w R p k d (-1) c) (hp : k ≤ p.length) : lifeOf w' R p.length < lifeOf w R p.length := by
  rw [h.life, h'.life]; omega

/-- what is kept from sign to sign -/
structure PQ (w : World) (R NB : Nat) (z y0 y1 y2 y3 : Int) (sa : Option Addr) (sn sc : Nat) (lo hi : Int) (x : Nd) (W : World) : Prop where
  gr : Gr R w W
  zero : ZeroAt W w.heap.size
  blk : Blk W NB (.int .i64 z) (.int .u64 y0) (.int .u64 y1) (.int .u64 y2) (.int .u64 y3) (.slice sa sn sc) (.int .i64 lo) (.int .i64 hi)
  nd : NodeAt W (Off (w.heap.size + 1) NB) (.agg #[.int .i64 z, .int .u64 y0, .int .u64 y1, .int .u64 y2, .int .u64 y3, .slice sa sn sc, .int .i64 lo, .int .i64 hi]) x
theorem PQ.drewN {w W : World} {R NB : Nat} {z y0 y1 y2 y3 : Int} {sa : Option Addr} {sn sc : Nat} {lo hi : Int} {x : Nd} (h : PQ w R NB z y0 y1 y2 y3 sa sn sc lo hi x W) (n : Nat) : PQ w R NB z y0 y1 y2 y3 sa sn sc lo hi x (W.drewN n) :=
  ⟨h.gr.drewN n, h.zero.drewN n, h.blk.drewN n, h.nd.drewN n⟩
theorem PQ.gr2 {w W W' : World} {R NB : Nat} {z y0 y1 y2 y3 : Int} {sa : Option Addr} {sn sc : Nat} {lo hi : Int} {x : Nd} (h : PQ w R NB z y0 y1 y2 y3 sa sn sc lo hi x W) (hg : Gr R W W') (hR : R < w.heap.size) (hN : w.heap.size < NB) : PQ w R NB z y0 y1 y2 y3 sa sn sc lo hi x W' :=
  ⟨Gr.tr h.gr hg, h.zero.gr hg (by omega), h.blk.gr hg (by omega), h.nd.grO hg (by omega)⟩

set_option maxHeartbeats 8000000 in
theorem qpiece_any (g : Tx → Rs Nd) (o : Nat) (hg : Tame g) (hat : QReads 47 (atomE g) (o : Int)) : QReads 39 (pieceE g) (o : Int) := by
  intro p k R w hp hk hr
  have hR := hr.lt
  have HR0 := hidden hr
  have HZ0 := hidden (Blk.new w (.int .i64 0) (.int .u64 0) (.int .u64 0) (.int .u64 0) (.int .u64 0) (.slice none 0 0) (.int .i64 0) (.int .i64 0))
  have HX := hidden hat
  have ht := atomE_tame hg (p.drop k) (drop_ne hk)
  rw [List.length_drop] at ht
  have HT := hidden ht
  clear hr hat ht hg
  go_enter Try.func39, Try.ntmps39
  go_wp2_with fail
  refine (HX.out p k R _ hp hk (by (with_reducible (repeat (first | exact HR0.out | apply RqAt.alloc | apply RqAt.put | apply RqAt.set1 | apply RqAt.set1i | apply RqAt.set2 | apply RqAt.set2i | apply RqAt.set3 | apply RqAt.set4 | apply RqAt.other | apply RqAt.drewN | apply RqAt.drew | exact (Int.natCast_succ _).symm | omega))))).mono ?_
  rintro e w1 ⟨hg1, ha1⟩
  have hs1 : w.heap.size + 1 ≤ w1.heap.size := by have := hg1.size; simpa using this
  have HG1 := hidden (Gr.tr (a := w) (by (with_reducible (repeat (first | exact Gr.refl _ _ | apply Gr.alloc | apply Gr.put | apply Gr.own | apply Gr.new | apply Gr.drewN | apply Gr.drew | omega)))) hg1)
  have HZ1 := hidden (ZeroAt.gr (b := w.heap.size) (by (with_reducible (repeat (first | exact HZ0.out | exact Blk.newAt (by simp) | apply Blk.alloc | apply Blk.put | apply Blk.putOther | apply Blk.other | apply Blk.drewN | apply Blk.drew | omega)))) hg1 (by omega))
  obtain ⟨v, x0, rfl, hn1, hst⟩ := ha1.out
  obtain ⟨z, y0, y1, y2, y3, sa, sn, sc, lo, hi, rfl⟩ := hn1.shapeI
  have HN1 := hidden (NodeAt.toOff (n := w.heap.size + 1) (N := w1.heap.size) hn1 (by simp) (Nat.le_refl _))
  obtain ⟨NB, hNB⟩ : ∃ N, N = w1.heap.size := ⟨_, rfl⟩
  rw [← hNB] at HN1
  have HST := hidden hst
  clear hg1 hn1 ha1 hst
  go_wp2_with fail
  rw [← hNB]
  go_loopw [4] (fun _ wr => ∃ (x : Nd) (z y0 y1 y2 y3 : Int) (sa : Option Addr) (sn sc : Nat) (lo hi : Int), Hid (PQ w R NB z y0 y1 y2 y3 sa sn sc lo hi x wr ∧ ((∃ q n : Nat, q ≤ p.length ∧ k < q ∧ RqAt wr R p q o (-1) 0 ∧ (p.drop q).length < n ∧ pieceE g (p.drop k) = (postE n x (p.drop q)).far (q - k)) ∨ BadAt wr R p ∧ ∃ m c, pieceE g (p.drop k) = .er m c)))
    (fun _ wr => lifeOf wr R p.length)
  case atStart =>
    refine ⟨x0, z, y0, y1, y2, y3, sa, sn, sc, lo, hi, ⟨by (with_reducible (repeat (first | exact HG1.out | apply Gr.alloc | apply Gr.put | apply Gr.own | apply Gr.new | apply Gr.drewN | apply Gr.drew | omega))), by (with_reducible (repeat (first | exact HZ1.out | exact Blk.newAt (by simp) | apply Blk.alloc | apply Blk.put | apply Blk.putOther | apply Blk.other | apply Blk.drewN | apply Blk.drew | omega))), by rw [hNB]; exact Blk.new _ _ _ _ _ _ _ _ _, by (with_reducible (repeat (first | exact HN1.out | apply NodeAt.alloc | apply NodeAt.putN | apply NodeAt.other | apply NodeAt.putO | apply NodeAt.otherO | apply NodeAt.drewN | apply NodeAt.drew | omega)))⟩, ?_⟩
    rcases HST.out with ⟨m0, hx, hr1⟩ | ⟨⟨m, c, hx⟩, hb⟩
    · refine Or.inl ⟨k + m0, (p.drop k).length + 1, ?_, ?_, by (with_reducible (repeat (first | exact hr1 | apply RqAt.alloc | apply RqAt.put | apply RqAt.set1 | apply RqAt.set1i | apply RqAt.set2 | apply RqAt.set2i | apply RqAt.set3 | apply RqAt.set4 | apply RqAt.other | apply RqAt.drewN | apply RqAt.drew | exact (Int.natCast_succ _).symm | omega))), ?_, ?_⟩
      · have := HT.out.1; rw [hx] at this; have h2 : m0 ≤ p.length - k := this; omega
      · have := HT.out.2 x0 m0 hx; omega
      · rw [List.length_drop, List.length_drop]; omega
      · unfold pieceE; rw [hx]; simp only []; rw [List.drop_drop, show k + m0 - k = m0 by omega]
    · refine Or.inr ⟨hb.keep ?_, m, c, by unfold pieceE; rw [hx]⟩
      exact Below.heap_alloc _ _ _ hb.lt
  case round =>
    obtain ⟨x, z, y0, y1, y2, y3, sa, sn, sc, lo, hi, hK0, hcase⟩ := hrel
    have HK0 := hidden hK0
    have hRN : R < NB := by omega
    have hZN : w.heap.size < NB := by omega
    have HNB := hidden hNB
    clear hK0 hNB
    rcases hcase with ⟨q, n, hq, hkq, hr0, hn, hpost⟩ | ⟨hbad, hbm⟩
    · have HRD0 := hidden hr0
      have HP := hidden hpost
      rw [List.length_drop] at hn
      clear hr0 hpost
      have HK := HK0
      have HRD := HRD0
      have hRl := HRD.out.lt
      have hNl := HK.out.blk.lt
      have hZl := HK.out.zero.lt
      obtain ⟨r0, r1, r2, r3, r4⟩ := HRD.out.cells
      obtain ⟨t0, t1, t2, t3, t4⟩ := HRD.out.thawed
      obtain ⟨z0, z1, z2, z3, z4, z5, z6, z7⟩ := HK.out.zero.cells
      obtain ⟨f0, f1, f2, f3, f4, f5, f6, f7⟩ := HK.out.zero.thawed
      obtain ⟨b0, b1, b2, b3, b4, b5, b6, b7⟩ := HK.out.blk.cells
      obtain ⟨g0, g1, g2, g3, g4, g5, g6, g7⟩ := HK.out.blk.thawed
      by_cases hlt : q < p.length
      · have hli : (q : Int) < p.length := by omega
        obtain ⟨c, hc⟩ : ∃ c, c = p.getD q 0 := ⟨_, rfl⟩
        have hb : ∀ h, (⟨p.toArray⟩ : ByteArray)[q]'h = c := fun h => by rw [byte_at, hc]
        have hcg : (p.drop q).getD 0 0 = c := by rw [getD_byte, hc]
        clear hc
        by_cases e42 : c = 42
        · subst e42
          obtain ⟨n, rfl⟩ : ∃ m, n = m + 1 := ⟨n - 1, by omega⟩
          have HP2 := hidden (show pieceE g (p.drop k) = (postE n (timesN x 0 (-1)) (p.drop (q + 1))).far (q + 1 - k) by
            rw [HP.out, postE, hcg, if_pos rfl, far_far, List.drop_drop, show q - k + 1 = q + 1 - k by omega])
          clear hcg 
          go_wp2_with fail
          go_quiet (fail)
          go_wp2_with fail
          go_quiet (fail)
          generalize hW2 : World.drewN _ nq = W2
          have HK2 := hidden (show PQ w R NB z y0 y1 y2 y3 sa sn sc lo hi x W2 by rw [← hW2]; first | exact HK.out.drewN _ | exact (HK.out.drewN _).drewN _)
          have HRD2 := hidden (show RqAt W2 R p q o (-1) 0 by rw [← hW2]; first | exact HRD.out.drewN _ | exact (HRD.out.drewN _).drewN _)
          clear hW2
          clear hRl hNl hZl r0 r1 r2 r3 r4 t0 t1 t2 t3 t4 z0 z1 z2 z3 z4 z5 z6 z7 f0 f1 f2 f3 f4 f5 f6 f7 b0 b1 b2 b3 b4 b5 b6 b7 g0 g1 g2 g3 g4 g5 g6 g7 HK HRD
          rename Hid (PQ w R NB z y0 y1 y2 y3 sa sn sc lo hi x W2) => HK
          rename Hid (RqAt W2 R p q o (-1) 0) => HRD
          have hRl := HRD.out.lt
          have hNl := HK.out.blk.lt
          have hZl := HK.out.zero.lt
          obtain ⟨r0, r1, r2, r3, r4⟩ := HRD.out.cells
          obtain ⟨t0, t1, t2, t3, t4⟩ := HRD.out.thawed
          obtain ⟨z0, z1, z2, z3, z4, z5, z6, z7⟩ := HK.out.zero.cells
          obtain ⟨f0, f1, f2, f3, f4, f5, f6, f7⟩ := HK.out.zero.thawed
          obtain ⟨b0, b1, b2, b3, b4, b5, b6, b7⟩ := HK.out.blk.cells
          obtain ⟨g0, g1, g2, g3, g4, g5, g6, g7⟩ := HK.out.blk.thawed
          go_wp2_with fail
          go_roundw
          case rel =>
            refine ⟨timesN x 0 (-1), 5, 0, 0, 0, 0, some ⟨W2.heap.size, 0, none⟩, 1, 1, 0, -1, ⟨by (with_reducible (repeat (first | exact HK.out.gr | apply Gr.alloc | apply Gr.put | apply Gr.own | apply Gr.new | apply Gr.drewN | apply Gr.drew | omega))), by (with_reducible (repeat (first | exact HK.out.zero | exact Blk.newAt (by simp) | apply Blk.alloc | apply Blk.put | apply Blk.putOther | apply Blk.other | apply Blk.drewN | apply Blk.drew | omega))), by (with_reducible (repeat (first | exact HK.out.blk | exact Blk.newAt (by simp) | apply Blk.alloc | apply Blk.put | apply Blk.putOther | apply Blk.other | apply Blk.drewN | apply Blk.drew | omega))), ?_⟩, Or.inl ⟨q + 1, n, by omega, by omega, by (with_reducible (repeat (first | exact HRD.out | apply RqAt.alloc | apply RqAt.put | apply RqAt.set1 | apply RqAt.set1i | apply RqAt.set2 | apply RqAt.set2i | apply RqAt.set3 | apply RqAt.set4 | apply RqAt.other | apply RqAt.drewN | apply RqAt.drew | exact (Int.natCast_succ _).symm | omega))), by rw [List.length_drop]; omega, HP2.out⟩⟩
            refine times_at (c0 := .int .i64 z) (c1 := .int .u64 y0) (c2 := .int .u64 y1) (c3 := .int .u64 y2) (c4 := .int .u64 y3) (c5 := .slice sa sn sc) (c6 := .int .i64 lo) (c7 := .int .i64 hi) ?_ ?_ ⟨by omega, by omega⟩ rfl
            · (with_reducible (repeat (first | exact HK.out.nd | apply NodeAt.alloc | apply NodeAt.putN | apply NodeAt.other | apply NodeAt.putO | apply NodeAt.otherO | apply NodeAt.drewN | apply NodeAt.drew | omega)))
            · (with_reducible (repeat (first | exact HK.out.blk | exact Blk.newAt (by simp) | apply Blk.alloc | apply Blk.put | apply Blk.putOther | apply Blk.other | apply Blk.drewN | apply Blk.drew | omega)))
          case measure => exact RqAt.less (p := p) (k := q) (k' := q + 1) (d := (o : Int)) (c := 0) (d' := (o : Int)) (c' := 0) (by (with_reducible (repeat (first | exact HRD.out | apply RqAt.alloc | apply RqAt.put | apply RqAt.set1 | apply RqAt.set1i | apply RqAt.set2 | apply RqAt.set2i | apply RqAt.set3 | apply RqAt.set4 | apply RqAt.other | apply RqAt.drewN | apply RqAt.drew | exact (Int.natCast_succ _).symm | omega)))) HRD0.out (by omega) (by omega)
        have n42 := byte_ne (n := 42) e42
        by_cases e43 : c = 43
        · subst e43
          obtain ⟨n, rfl⟩ : ∃ m, n = m + 1 := ⟨n - 1, by omega⟩
          have HP2 := hidden (show pieceE g (p.drop k) = (postE n (timesN x 1 (-1)) (p.drop (q + 1))).far (q + 1 - k) by
            rw [HP.out, postE, hcg, if_neg (by decide), if_pos rfl, far_far, List.drop_drop, show q - k + 1 = q + 1 - k by omega])
          clear hcg e42
          go_wp2_with fail
          go_quiet (fail)
          go_wp2_with fail
          go_quiet (fail)
          generalize hW2 : World.drewN _ nq = W2
          have HK2 := hidden (show PQ w R NB z y0 y1 y2 y3 sa sn sc lo hi x W2 by rw [← hW2]; first | exact HK.out.drewN _ | exact (HK.out.drewN _).drewN _)
          have HRD2 := hidden (show RqAt W2 R p q o (-1) 0 by rw [← hW2]; first | exact HRD.out.drewN _ | exact (HRD.out.drewN _).drewN _)
          clear hW2
          clear hRl hNl hZl r0 r1 r2 r3 r4 t0 t1 t2 t3 t4 z0 z1 z2 z3 z4 z5 z6 z7 f0 f1 f2 f3 f4 f5 f6 f7 b0 b1 b2 b3 b4 b5 b6 b7 g0 g1 g2 g3 g4 g5 g6 g7 HK HRD
          rename Hid (PQ w R NB z y0 y1 y2 y3 sa sn sc lo hi x W2) => HK
          rename Hid (RqAt W2 R p q o (-1) 0) => HRD
          have hRl := HRD.out.lt
          have hNl := HK.out.blk.lt
          have hZl := HK.out.zero.lt
          obtain ⟨r0, r1, r2, r3, r4⟩ := HRD.out.cells
          obtain ⟨t0, t1, t2, t3, t4⟩ := HRD.out.thawed
          obtain ⟨z0, z1, z2, z3, z4, z5, z6, z7⟩ := HK.out.zero.cells
          obtain ⟨f0, f1, f2, f3, f4, f5, f6, f7⟩ := HK.out.zero.thawed
          obtain ⟨b0, b1, b2, b3, b4, b5, b6, b7⟩ := HK.out.blk.cells
          obtain ⟨g0, g1, g2, g3, g4, g5, g6, g7⟩ := HK.out.blk.thawed
          go_wp2_with fail
          go_roundw
          case rel =>
            refine ⟨timesN x 1 (-1), 5, 0, 0, 0, 0, some ⟨W2.heap.size, 0, none⟩, 1, 1, 1, -1, ⟨by (with_reducible (repeat (first | exact HK.out.gr | apply Gr.alloc | apply Gr.put | apply Gr.own | apply Gr.new | apply Gr.drewN | apply Gr.drew | omega))), by (with_reducible (repeat (first | exact HK.out.zero | exact Blk.newAt (by simp) | apply Blk.alloc | apply Blk.put | apply Blk.putOther | apply Blk.other | apply Blk.drewN | apply Blk.drew | omega))), by (with_reducible (repeat (first | exact HK.out.blk | exact Blk.newAt (by simp) | apply Blk.alloc | apply Blk.put | apply Blk.putOther | apply Blk.other | apply Blk.drewN | apply Blk.drew | omega))), ?_⟩, Or.inl ⟨q + 1, n, by omega, by omega, by (with_reducible (repeat (first | exact HRD.out | apply RqAt.alloc | apply RqAt.put | apply RqAt.set1 | apply RqAt.set1i | apply RqAt.set2 | apply RqAt.set2i | apply RqAt.set3 | apply RqAt.set4 | apply RqAt.other | apply RqAt.drewN | apply RqAt.drew | exact (Int.natCast_succ _).symm | omega))), by rw [List.length_drop]; omega, HP2.out⟩⟩
            refine times_at (c0 := .int .i64 z) (c1 := .int .u64 y0) (c2 := .int .u64 y1) (c3 := .int .u64 y2) (c4 := .int .u64 y3) (c5 := .slice sa sn sc) (c6 := .int .i64 lo) (c7 := .int .i64 hi) ?_ ?_ ⟨by omega, by omega⟩ rfl
            · (with_reducible (repeat (first | exact HK.out.nd | apply NodeAt.alloc | apply NodeAt.putN | apply NodeAt.other | apply NodeAt.putO | apply NodeAt.otherO | apply NodeAt.drewN | apply NodeAt.drew | omega)))
            · (with_reducible (repeat (first | exact HK.out.blk | exact Blk.newAt (by simp) | apply Blk.alloc | apply Blk.put | apply Blk.putOther | apply Blk.other | apply Blk.drewN | apply Blk.drew | omega)))
          case measure => exact RqAt.less (p := p) (k := q) (k' := q + 1) (d := (o : Int)) (c := 0) (d' := (o : Int)) (c' := 0) (by (with_reducible (repeat (first | exact HRD.out | apply RqAt.alloc | apply RqAt.put | apply RqAt.set1 | apply RqAt.set1i | apply RqAt.set2 | apply RqAt.set2i | apply RqAt.set3 | apply RqAt.set4 | apply RqAt.other | apply RqAt.drewN | apply RqAt.drew | exact (Int.natCast_succ _).symm | omega)))) HRD0.out (by omega) (by omega)
        have n43 := byte_ne (n := 43) e43
        by_cases e63 : c = 63
        · subst e63
          obtain ⟨n, rfl⟩ : ∃ m, n = m + 1 := ⟨n - 1, by omega⟩
          have HP2 := hidden (show pieceE g (p.drop k) = (postE n (timesN x 0 (1)) (p.drop (q + 1))).far (q + 1 - k) by
            rw [HP.out, postE, hcg, if_neg (by decide), if_neg (by decide), if_pos rfl, far_far, List.drop_drop, show q - k + 1 = q + 1 - k by omega])
          clear hcg e42 e43
          go_wp2_with fail
          go_quiet (fail)
          go_wp2_with fail
          go_quiet (fail)
          generalize hW2 : World.drewN _ nq = W2
          have HK2 := hidden (show PQ w R NB z y0 y1 y2 y3 sa sn sc lo hi x W2 by rw [← hW2]; first | exact HK.out.drewN _ | exact (HK.out.drewN _).drewN _)
          have HRD2 := hidden (show RqAt W2 R p q o (-1) 0 by rw [← hW2]; first | exact HRD.out.drewN _ | exact (HRD.out.drewN _).drewN _)
          clear hW2
          clear hRl hNl hZl r0 r1 r2 r3 r4 t0 t1 t2 t3 t4 z0 z1 z2 z3 z4 z5 z6 z7 f0 f1 f2 f3 f4 f5 f6 f7 b0 b1 b2 b3 b4 b5 b6 b7 g0 g1 g2 g3 g4 g5 g6 g7 HK HRD
          rename Hid (PQ w R NB z y0 y1 y2 y3 sa sn sc lo hi x W2) => HK
          rename Hid (RqAt W2 R p q o (-1) 0) => HRD
          have hRl := HRD.out.lt
          have hNl := HK.out.blk.lt
          have hZl := HK.out.zero.lt
          obtain ⟨r0, r1, r2, r3, r4⟩ := HRD.out.cells
          obtain ⟨t0, t1, t2, t3, t4⟩ := HRD.out.thawed
          obtain ⟨z0, z1, z2, z3, z4, z5, z6, z7⟩ := HK.out.zero.cells
          obtain ⟨f0, f1, f2, f3, f4, f5, f6, f7⟩ := HK.out.zero.thawed
          obtain ⟨b0, b1, b2, b3, b4, b5, b6, b7⟩ := HK.out.blk.cells
          obtain ⟨g0, g1, g2, g3, g4, g5, g6, g7⟩ := HK.out.blk.thawed
          go_wp2_with fail
          go_roundw
          case rel =>
            refine ⟨timesN x 0 (1), 5, 0, 0, 0, 0, some ⟨W2.heap.size, 0, none⟩, 1, 1, 0, 1, ⟨by (with_reducible (repeat (first | exact HK.out.gr | apply Gr.alloc | apply Gr.put | apply Gr.own | apply Gr.new | apply Gr.drewN | apply Gr.drew | omega))), by (with_reducible (repeat (first | exact HK.out.zero | exact Blk.newAt (by simp) | apply Blk.alloc | apply Blk.put | apply Blk.putOther | apply Blk.other | apply Blk.drewN | apply Blk.drew | omega))), by (with_reducible (repeat (first | exact HK.out.blk | exact Blk.newAt (by simp) | apply Blk.alloc | apply Blk.put | apply Blk.putOther | apply Blk.other | apply Blk.drewN | apply Blk.drew | omega))), ?_⟩, Or.inl ⟨q + 1, n, by omega, by omega, by (with_reducible (repeat (first | exact HRD.out | apply RqAt.alloc | apply RqAt.put | apply RqAt.set1 | apply RqAt.set1i | apply RqAt.set2 | apply RqAt.set2i | apply RqAt.set3 | apply RqAt.set4 | apply RqAt.other | apply RqAt.drewN | apply RqAt.drew | exact (Int.natCast_succ _).symm | omega))), by rw [List.length_drop]; omega, HP2.out⟩⟩
            refine times_at (c0 := .int .i64 z) (c1 := .int .u64 y0) (c2 := .int .u64 y1) (c3 := .int .u64 y2) (c4 := .int .u64 y3) (c5 := .slice sa sn sc) (c6 := .int .i64 lo) (c7 := .int .i64 hi) ?_ ?_ ⟨by omega, by omega⟩ rfl
            · (with_reducible (repeat (first | exact HK.out.nd | apply NodeAt.alloc | apply NodeAt.putN | apply NodeAt.other | apply NodeAt.putO | apply NodeAt.otherO | apply NodeAt.drewN | apply NodeAt.drew | omega)))
            · (with_reducible (repeat (first | exact HK.out.blk | exact Blk.newAt (by simp) | apply Blk.alloc | apply Blk.put | apply Blk.putOther | apply Blk.other | apply Blk.drewN | apply Blk.drew | omega)))
          case measure => exact RqAt.less (p := p) (k := q) (k' := q + 1) (d := (o : Int)) (c := 0) (d' := (o : Int)) (c' := 0) (by (with_reducible (repeat (first | exact HRD.out | apply RqAt.alloc | apply RqAt.put | apply RqAt.set1 | apply RqAt.set1i | apply RqAt.set2 | apply RqAt.set2i | apply RqAt.set3 | apply RqAt.set4 | apply RqAt.other | apply RqAt.drewN | apply RqAt.drew | exact (Int.natCast_succ _).symm | omega)))) HRD0.out (by omega) (by omega)
        have n63 := byte_ne (n := 63) e63
        by_cases e123 : c = 123
        · subst e123
          obtain ⟨n, rfl⟩ : ∃ m, n = m + 1 := ⟨n - 1, by omega⟩
          have hP : pieceE g (p.drop k) = (match timesR (p.drop (q + 1)) with | none => (Rs.er 0 2 : Rs Nd) | some r => (postE n (timesN x r.1 r.2.1) (p.drop (q + (1 + r.2.2)))).far (1 + r.2.2)).far (q - k) := by
            rw [HP.out, postE, hcg, if_neg (by decide), if_neg (by decide), if_neg (by decide), if_pos rfl, List.drop_drop]
            cases timesR (p.drop (q + 1)) with
            | none => rfl
            | some r => simp only [List.drop_drop]
          clear hcg e42 e43 e63
          go_wp2_with fail
          go_quiet (fail)
          go_wp2_with fail
          go_quiet (fail)
          generalize hW2 : World.drewN _ nq = W2
          have HK2 := hidden (show PQ w R NB z y0 y1 y2 y3 sa sn sc lo hi x W2 by rw [← hW2]; first | exact HK.out.drewN _ | exact (HK.out.drewN _).drewN _)
          have HRD2 := hidden (show RqAt W2 R p q o (-1) 0 by rw [← hW2]; first | exact HRD.out.drewN _ | exact (HRD.out.drewN _).drewN _)
          clear hW2
          clear hRl hNl hZl r0 r1 r2 r3 r4 t0 t1 t2 t3 t4 z0 z1 z2 z3 z4 z5 z6 z7 f0 f1 f2 f3 f4 f5 f6 f7 b0 b1 b2 b3 b4 b5 b6 b7 g0 g1 g2 g3 g4 g5 g6 g7 HK HRD
          rename Hid (PQ w R NB z y0 y1 y2 y3 sa sn sc lo hi x W2) => HK
          rename Hid (RqAt W2 R p q o (-1) 0) => HRD
          have hRl := HRD.out.lt
          have hNl := HK.out.blk.lt
          have hZl := HK.out.zero.lt
          obtain ⟨r0, r1, r2, r3, r4⟩ := HRD.out.cells
          obtain ⟨t0, t1, t2, t3, t4⟩ := HRD.out.thawed
          obtain ⟨z0, z1, z2, z3, z4, z5, z6, z7⟩ := HK.out.zero.cells
          obtain ⟨f0, f1, f2, f3, f4, f5, f6, f7⟩ := HK.out.zero.thawed
          obtain ⟨b0, b1, b2, b3, b4, b5, b6, b7⟩ := HK.out.blk.cells
          obtain ⟨g0, g1, g2, g3, g4, g5, g6, g7⟩ := HK.out.blk.thawed
          go_wp2_with fail
          refine (qtimes_any p q R o _ hp hlt HRD.out).mono ?_
          rintro e w3 ht3
          cases ht : timesR (p.drop (q + 1)) with
          | none =>
            rw [ht] at ht3
            obtain ⟨rfl, hbad, hg3⟩ := ht3
            have HF := hidden (show ∃ m c, pieceE g (p.drop k) = .er m c from ⟨_, _, by rw [hP, ht]; rfl⟩)
            have HK3 := hidden (HK.out.gr2 hg3 hR hZN)
            have HB := hidden hbad
            clear hP ht hg3 hbad
            clear hRl hNl hZl r0 r1 r2 r3 r4 t0 t1 t2 t3 t4 z0 z1 z2 z3 z4 z5 z6 z7 f0 f1 f2 f3 f4 f5 f6 f7 b0 b1 b2 b3 b4 b5 b6 b7 g0 g1 g2 g3 g4 g5 g6 g7 HK HRD
            rename Hid (PQ w R NB z y0 y1 y2 y3 sa sn sc lo hi x w3) => HK
            have hNl := HK.out.blk.lt
            obtain ⟨b0, b1, b2, b3, b4, b5, b6, b7⟩ := HK.out.blk.cells
            obtain ⟨g0, g1, g2, g3, g4, g5, g6, g7⟩ := HK.out.blk.thawed
            go_wp2_with fail
            go_roundw
            case rel =>
              refine ⟨timesN x 0 0, 5, 0, 0, 0, 0, some ⟨w3.heap.size, 0, none⟩, 1, 1, 0, 0, ⟨by (with_reducible (repeat (first | exact HK.out.gr | apply Gr.alloc | apply Gr.put | apply Gr.own | apply Gr.new | apply Gr.drewN | apply Gr.drew | omega))), by (with_reducible (repeat (first | exact HK.out.zero | exact Blk.newAt (by simp) | apply Blk.alloc | apply Blk.put | apply Blk.putOther | apply Blk.other | apply Blk.drewN | apply Blk.drew | omega))), by (with_reducible (repeat (first | exact HK.out.blk | exact Blk.newAt (by simp) | apply Blk.alloc | apply Blk.put | apply Blk.putOther | apply Blk.other | apply Blk.drewN | apply Blk.drew | omega))), ?_⟩, Or.inr ⟨?_, HF.out⟩⟩
              refine times_at (c0 := .int .i64 z) (c1 := .int .u64 y0) (c2 := .int .u64 y1) (c3 := .int .u64 y2) (c4 := .int .u64 y3) (c5 := .slice sa sn sc) (c6 := .int .i64 lo) (c7 := .int .i64 hi) ?_ ?_ ⟨by omega, by omega⟩ rfl
              · (with_reducible (repeat (first | exact HK.out.nd | apply NodeAt.alloc | apply NodeAt.putN | apply NodeAt.other | apply NodeAt.putO | apply NodeAt.otherO | apply NodeAt.drewN | apply NodeAt.drew | omega)))
              · (with_reducible (repeat (first | exact HK.out.blk | exact Blk.newAt (by simp) | apply Blk.alloc | apply Blk.put | apply Blk.putOther | apply Blk.other | apply Blk.drewN | apply Blk.drew | omega)))
              · obtain ⟨kb, db, bb, cb, hrb, h2⟩ := HB.out
                exact ⟨kb, db, bb, cb, by (with_reducible (repeat (first | exact hrb | apply RqAt.alloc | apply RqAt.put | apply RqAt.set1 | apply RqAt.set1i | apply RqAt.set2 | apply RqAt.set2i | apply RqAt.set3 | apply RqAt.set4 | apply RqAt.other | apply RqAt.drewN | apply RqAt.drew | exact (Int.natCast_succ _).symm | omega))), h2⟩
            case measure =>
              refine BadAt.less (p := p) (k := q) (d := (o : Int)) (c := 0) ?_ HRD0.out (by omega)
              obtain ⟨kb, db, bb, cb, hrb, h2⟩ := HB.out
              exact ⟨kb, db, bb, cb, by (with_reducible (repeat (first | exact hrb | apply RqAt.alloc | apply RqAt.put | apply RqAt.set1 | apply RqAt.set1i | apply RqAt.set2 | apply RqAt.set2i | apply RqAt.set3 | apply RqAt.set4 | apply RqAt.other | apply RqAt.drewN | apply RqAt.drew | exact (Int.natCast_succ _).symm | omega))), h2⟩
          | some r =>
            obtain ⟨rlo, rhi, rm⟩ := r
            rw [ht] at ht3
            obtain ⟨rfl, hr3, hg3⟩ := ht3
            have hrm := timesR_le ht
            rw [List.length_drop] at hrm
            have hrm1 : 1 ≤ rm := hrm.1
            have hrm2 : rm ≤ p.length - (q + 1) := hrm.2
            obtain ⟨q2, hq2⟩ : ∃ q2, q2 = q + 1 + rm := ⟨_, rfl⟩
            have HP2 := hidden (show pieceE g (p.drop k) = (postE n (timesN x rlo rhi) (p.drop q2)).far (q2 - k) by
              rw [hP, ht]
              simp only []
              rw [far_far, show q + (1 + rm) = q2 by omega, show q - k + (1 + rm) = q2 - k by omega])
            rw [← hq2] at hr3
            have hq2p : q2 ≤ p.length := by omega
            have hqq2 : q + 1 < q2 := by omega
            have HK3 := hidden (HK.out.gr2 hg3 hR hZN)
            have HRD3 := hidden hr3
            clear hP ht hrm hrm1 hrm2 hq2 hg3 hr3
            clear hRl hNl hZl r0 r1 r2 r3 r4 t0 t1 t2 t3 t4 z0 z1 z2 z3 z4 z5 z6 z7 f0 f1 f2 f3 f4 f5 f6 f7 b0 b1 b2 b3 b4 b5 b6 b7 g0 g1 g2 g3 g4 g5 g6 g7 HK HRD
            rename Hid (PQ w R NB z y0 y1 y2 y3 sa sn sc lo hi x w3) => HK
            rename Hid (RqAt w3 R p q2 o (-1) 0) => HRD
            have hNl := HK.out.blk.lt
            obtain ⟨b0, b1, b2, b3, b4, b5, b6, b7⟩ := HK.out.blk.cells
            obtain ⟨g0, g1, g2, g3, g4, g5, g6, g7⟩ := HK.out.blk.thawed
            go_wp2_with fail
            go_roundw
            case rel =>
              refine ⟨timesN x rlo rhi, 5, 0, 0, 0, 0, some ⟨w3.heap.size, 0, none⟩, 1, 1, rlo, rhi, ⟨by (with_reducible (repeat (first | exact HK.out.gr | apply Gr.alloc | apply Gr.put | apply Gr.own | apply Gr.new | apply Gr.drewN | apply Gr.drew | omega))), by (with_reducible (repeat (first | exact HK.out.zero | exact Blk.newAt (by simp) | apply Blk.alloc | apply Blk.put | apply Blk.putOther | apply Blk.other | apply Blk.drewN | apply Blk.drew | omega))), by (with_reducible (repeat (first | exact HK.out.blk | exact Blk.newAt (by simp) | apply Blk.alloc | apply Blk.put | apply Blk.putOther | apply Blk.other | apply Blk.drewN | apply Blk.drew | omega))), ?_⟩, Or.inl ⟨q2, n, by omega, by omega, by (with_reducible (repeat (first | exact HRD.out | apply RqAt.alloc | apply RqAt.put | apply RqAt.set1 | apply RqAt.set1i | apply RqAt.set2 | apply RqAt.set2i | apply RqAt.set3 | apply RqAt.set4 | apply RqAt.other | apply RqAt.drewN | apply RqAt.drew | exact (Int.natCast_succ _).symm | omega))), by rw [List.length_drop]; omega, HP2.out⟩⟩
              refine times_at (c0 := .int .i64 z) (c1 := .int .u64 y0) (c2 := .int .u64 y1) (c3 := .int .u64 y2) (c4 := .int .u64 y3) (c5 := .slice sa sn sc) (c6 := .int .i64 lo) (c7 := .int .i64 hi) ?_ ?_ ⟨by omega, by omega⟩ rfl
              · (with_reducible (repeat (first | exact HK.out.nd | apply NodeAt.alloc | apply NodeAt.putN | apply NodeAt.other | apply NodeAt.putO | apply NodeAt.otherO | apply NodeAt.drewN | apply NodeAt.drew | omega)))
              · (with_reducible (repeat (first | exact HK.out.blk | exact Blk.newAt (by simp) | apply Blk.alloc | apply Blk.put | apply Blk.putOther | apply Blk.other | apply Blk.drewN | apply Blk.drew | omega)))
            case measure => exact RqAt.less (p := p) (k := q) (k' := q2) (d := (o : Int)) (c := 0) (d' := (o : Int)) (c' := 0) (by (with_reducible (repeat (first | exact HRD.out | apply RqAt.alloc | apply RqAt.put | apply RqAt.set1 | apply RqAt.set1i | apply RqAt.set2 | apply RqAt.set2i | apply RqAt.set3 | apply RqAt.set4 | apply RqAt.other | apply RqAt.drewN | apply RqAt.drew | exact (Int.natCast_succ _).symm | omega)))) HRD0.out (by omega) (by omega)
        have n123 := byte_ne (n := 123) e123
        have HF := hidden (show pieceE g (p.drop k) = .ok x (q - k) by
          rw [HP.out]
          obtain ⟨n, rfl⟩ : ∃ m, n = m + 1 := ⟨n - 1, by omega⟩
          rw [postE, hcg, if_neg e42, if_neg e43, if_neg e63, if_neg e123]
          rfl)
        clear hcg e42 e43 e63 e123
        go_wp2_with fail
        go_quiet (fail)
        go_wp2_with fail
        go_quiet (fail)
        go_wp2_with fail
        refine bodyPost_ret (results_node1 rfl _ _ w.heap.size (.int .i64 z) (.int .u64 y0) (.int .u64 y1) (.int .u64 y2) (.int .u64 y3) (.slice sa sn sc) (.int .i64 lo) (.int .i64 hi) rfl (by (with_reducible (repeat (first | exact HK.out.zero | exact Blk.newAt (by simp) | apply Blk.alloc | apply Blk.put | apply Blk.putOther | apply Blk.other | apply Blk.drewN | apply Blk.drew | omega))))) rfl ?_
        rw [HF.out]
        exact ⟨by (with_reducible (repeat (first | exact HK.out.gr | apply Gr.alloc | apply Gr.put | apply Gr.own | apply Gr.new | apply Gr.drewN | apply Gr.drew | omega))), _, rfl, by refine NodeAt.ofOff (n := w.heap.size + 1) (N := NB) ?_ (by omega); (with_reducible (repeat (first | exact HK.out.nd | apply NodeAt.alloc | apply NodeAt.putN | apply NodeAt.other | apply NodeAt.putO | apply NodeAt.otherO | apply NodeAt.drewN | apply NodeAt.drew | omega))), by rw [show k + (q - k) = q by omega]; (with_reducible (repeat (first | exact HRD.out | apply RqAt.alloc | apply RqAt.put | apply RqAt.set1 | apply RqAt.set1i | apply RqAt.set2 | apply RqAt.set2i | apply RqAt.set3 | apply RqAt.set4 | apply RqAt.other | apply RqAt.drewN | apply RqAt.drew | exact (Int.natCast_succ _).symm | omega)))⟩
      · have hli : ¬ (q : Int) < p.length := by omega
        have hld : decide ((q : Int) < p.length) = false := by simp; omega
        have HF := hidden (show pieceE g (p.drop k) = .ok x (q - k) by
          rw [HP.out, List.drop_eq_nil_of_le (by omega)]
          obtain ⟨n, rfl⟩ : ∃ m, n = m + 1 := ⟨n - 1, by omega⟩
          rw [postE]
          rfl)
        go_wp2_with fail
        go_quiet (fail)
        go_wp2_with fail
        refine bodyPost_ret (results_node1 rfl _ _ w.heap.size (.int .i64 z) (.int .u64 y0) (.int .u64 y1) (.int .u64 y2) (.int .u64 y3) (.slice sa sn sc) (.int .i64 lo) (.int .i64 hi) rfl (by (with_reducible (repeat (first | exact HK.out.zero | exact Blk.newAt (by simp) | apply Blk.alloc | apply Blk.put | apply Blk.putOther | apply Blk.other | apply Blk.drewN | apply Blk.drew | omega))))) rfl ?_
        rw [HF.out]
        exact ⟨by (with_reducible (repeat (first | exact HK.out.gr | apply Gr.alloc | apply Gr.put | apply Gr.own | apply Gr.new | apply Gr.drewN | apply Gr.drew | omega))), _, rfl, by refine NodeAt.ofOff (n := w.heap.size + 1) (N := NB) ?_ (by omega); (with_reducible (repeat (first | exact HK.out.nd | apply NodeAt.alloc | apply NodeAt.putN | apply NodeAt.other | apply NodeAt.putO | apply NodeAt.otherO | apply NodeAt.drewN | apply NodeAt.drew | omega))), by rw [show k + (q - k) = q by omega]; (with_reducible (repeat (first | exact HRD.out | apply RqAt.alloc | apply RqAt.put | apply RqAt.set1 | apply RqAt.set1i | apply RqAt.set2 | apply RqAt.set2i | apply RqAt.set3 | apply RqAt.set4 | apply RqAt.other | apply RqAt.drewN | apply RqAt.drew | exact (Int.natCast_succ _).symm | omega)))⟩
    · obtain ⟨kb, db, bb, cb, hrb, hbb, hcb⟩ := hbad
      obtain ⟨mm, mc, hF⟩ := hbm
      have HF := hidden hF
      have HCB := hidden hcb
      have hbn : ¬ bb < 0 := by omega
      have hbd : decide (bb < 0) = false := decide_eq_false hbn
      have HRD := hidden hrb
      have HK := HK0
      clear hF hcb hrb
      have hRl := HRD.out.lt
      have hNl := HK.out.blk.lt
      have hZl := HK.out.zero.lt
      obtain ⟨r0, r1, r2, r3, r4⟩ := HRD.out.cells
      obtain ⟨t0, t1, t2, t3, t4⟩ := HRD.out.thawed
      obtain ⟨z0, z1, z2, z3, z4, z5, z6, z7⟩ := HK.out.zero.cells
      obtain ⟨f0, f1, f2, f3, f4, f5, f6, f7⟩ := HK.out.zero.thawed
      obtain ⟨b0, b1, b2, b3, b4, b5, b6, b7⟩ := HK.out.blk.cells
      obtain ⟨g0, g1, g2, g3, g4, g5, g6, g7⟩ := HK.out.blk.thawed
      go_wp2_with fail
      go_quiet (fail)
      go_wp2_with fail
      refine bodyPost_ret (results_node1 rfl _ _ w.heap.size (.int .i64 z) (.int .u64 y0) (.int .u64 y1) (.int .u64 y2) (.int .u64 y3) (.slice sa sn sc) (.int .i64 lo) (.int .i64 hi) rfl (by (with_reducible (repeat (first | exact HK.out.zero | exact Blk.newAt (by simp) | apply Blk.alloc | apply Blk.put | apply Blk.putOther | apply Blk.other | apply Blk.drewN | apply Blk.drew | omega))))) rfl ?_
      rw [HF.out]
      exact ⟨by (with_reducible (repeat (first | exact HK.out.gr | apply Gr.alloc | apply Gr.put | apply Gr.own | apply Gr.new | apply Gr.drewN | apply Gr.drew | omega))), _, x, rfl, by refine NodeAt.ofOff (n := w.heap.size + 1) (N := NB) ?_ (by omega); (with_reducible (repeat (first | exact HK.out.nd | apply NodeAt.alloc | apply NodeAt.putN | apply NodeAt.other | apply NodeAt.putO | apply NodeAt.otherO | apply NodeAt.drewN | apply NodeAt.drew | omega))), kb, db, bb, cb, by (with_reducible (repeat (first | exact HRD.out | apply RqAt.alloc | apply RqAt.put | apply RqAt.set1 | apply RqAt.set1i | apply RqAt.set2 | apply RqAt.set2i | apply RqAt.set3 | apply RqAt.set4 | apply RqAt.other | apply RqAt.drewN | apply RqAt.drew | exact (Int.natCast_succ _).symm | omega))), hbb, HCB.out⟩

end Go.Proofs.Ytjlihidmohokhaa
