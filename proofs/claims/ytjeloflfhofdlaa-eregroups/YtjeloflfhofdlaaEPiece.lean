/-
  What the program's piece answers, where its atom answers as it should: an atom, and how many times it comes; conditions: the text's length, and that the reader's block holds it.
-/
import Derived.Test.YtjeloflfhofdlaaEAtom
namespace Go.Proofs.Ytjeloflfhofdlaa
open Go.RowKit Go.Proofs.Ytjeloflfhofdlaa.Gl

/-- what is kept from sign to sign -/
structure PK (w : World) (R NB : Nat) (p : Tx) (q : Nat) (o z y0 y1 y2 y3 : Int) (sa : Option Addr) (sn sc : Nat) (lo hi : Int) (x : Nd) (W : World) : Prop where
  gr : Gr R w W
  rd : RdAt W R p q o
  zero : ZeroAt W w.heap.size
  blk : Blk W NB (.int .i64 z) (.int .u64 y0) (.int .u64 y1) (.int .u64 y2) (.int .u64 y3) (.slice sa sn sc) (.int .i64 lo) (.int .i64 hi)
  nd : NodeAt W (Off (w.heap.size + 1) NB) (.agg #[.int .i64 z, .int .u64 y0, .int .u64 y1, .int .u64 y2, .int .u64 y3, .slice sa sn sc, .int .i64 lo, .int .i64 hi]) x
theorem PK.drewN {w W : World} {R NB : Nat} {p : Tx} {q : Nat} {o z y0 y1 y2 y3 : Int} {sa : Option Addr} {sn sc : Nat} {lo hi : Int} {x : Nd} (h : PK w R NB p q o z y0 y1 y2 y3 sa sn sc lo hi x W) (n : Nat) : PK w R NB p q o z y0 y1 y2 y3 sa sn sc lo hi x (W.drewN n) :=
  ⟨h.gr.drewN n, h.rd.drewN n, h.zero.drewN n, h.blk.drewN n, h.nd.drewN n⟩
theorem far_far {α : Type} (a b : Nat) (r : Rs α) : (r.far a).far b = r.far (b + a) := by cases r <;> simp [Rs.far] <;> omega
theorem far_zero {α : Type} (r : Rs α) : r.far 0 = r := by cases r <;> simp [Rs.far]

set_option maxHeartbeats 8000000 in
theorem piece_any (g : Tx → Rs Nd) (o : Nat) (hg : Tame g) (hat : Reads 37 (atomE g) (o : Int)) : Reads 33 (pieceE g) (o : Int) := by
  intro p k R w hp hk hr
  have hR := hr.lt
  have HR0 := hidden hr
  have HZ0 := hidden (Blk.new w (.int .i64 0) (.int .u64 0) (.int .u64 0) (.int .u64 0) (.int .u64 0) (.slice none 0 0) (.int .i64 0) (.int .i64 0))
  have HX := hidden hat
  have ht := atomE_tame hg (p.drop k) (drop_ne hk)
  rw [List.length_drop] at ht
  have HT := hidden ht
  clear hr hat ht hg
  go_enter Try.func33, Try.ntmps33
  go_wp2_with fail
  refine (HX.out p k R _ hp hk (by (with_reducible (repeat (first | exact HR0.out | apply RdAt.alloc | apply RdAt.put | apply RdAt.set1 | apply RdAt.set1i | apply RdAt.set2 | apply RdAt.set2i | apply RdAt.other | apply RdAt.drewN | apply RdAt.drew | exact (Int.natCast_succ _).symm | omega))))).mono ?_
  rintro e w1 ⟨hg1, ha1⟩
  have hs1 : w.heap.size + 1 ≤ w1.heap.size := by have := hg1.size; simpa using this
  have HG1 := hidden (Gr.tr (a := w) (by (with_reducible (repeat (first | exact Gr.refl _ _ | apply Gr.alloc | apply Gr.put | apply Gr.own | apply Gr.new | apply Gr.drewN | apply Gr.drew | omega)))) hg1)
  have HZ1 := hidden (ZeroAt.gr (b := w.heap.size) (by (with_reducible (repeat (first | exact HZ0.out | (apply Blk.newAt; simp; done) | apply Blk.alloc | apply Blk.put | apply Blk.putOther | apply Blk.other | apply Blk.drewN | apply Blk.drew | omega)))) hg1 (by omega))
  obtain ⟨z0, z1, z2, z3, z4, z5, z6, z7⟩ := HZ1.out.cells
  obtain ⟨f0, f1, f2, f3, f4, f5, f6, f7⟩ := HZ1.out.thawed
  have hzl := HZ1.out.lt
  cases hx : atomE g (p.drop k) with
  | er m c2 =>
    rw [hx] at ha1
    obtain ⟨rfl, hc2, o', hr1⟩ := ha1
    have HR1 := hidden hr1
    have HA := hidden (show pieceE g (p.drop k) = .er m c2 by unfold pieceE; rw [hx])
    have hcb : ((c2 : Int) != 0) = true := by rw [bne_iff_ne]; omega
    have HC := hidden hc2
    rw [zeroV_is]
    clear hx hr1 hg1 hc2
    go_wp2_with fail
    refine bodyPost_ret (results_node2 rfl _ _ w.heap.size (.int .i64 0) (.int .u64 0) (.int .u64 0) (.int .u64 0) (.int .u64 0) (.slice none 0 0) (.int .i64 0) (.int .i64 0) rfl (by (with_reducible (repeat (first | exact HZ1.out | (apply Blk.newAt; simp; done) | apply Blk.alloc | apply Blk.put | apply Blk.putOther | apply Blk.other | apply Blk.drewN | apply Blk.drew | omega))))) rfl ?_
    rw [HA.out]
    exact ⟨by (with_reducible (repeat (first | exact HG1.out | apply Gr.alloc | apply Gr.put | apply Gr.own | apply Gr.new | apply Gr.drewN | apply Gr.drew | omega))), rfl, HC.out, o', by (with_reducible (repeat (first | exact HR1.out | apply RdAt.alloc | apply RdAt.put | apply RdAt.set1 | apply RdAt.set1i | apply RdAt.set2 | apply RdAt.set2i | apply RdAt.other | apply RdAt.drewN | apply RdAt.drew | exact (Int.natCast_succ _).symm | omega)))⟩
  | ok x0 m0 =>
    rw [hx] at ha1
    obtain ⟨v, rfl, hn1, hr1⟩ := ha1
    obtain ⟨z, y0, y1, y2, y3, sa, sn, sc, lo, hi, rfl⟩ := hn1.shapeI
    have hmm := HT.out
    rw [hx] at hmm
    have hm1 : m0 ≤ p.length - k := hmm.1
    have hm2 : 1 ≤ m0 := hmm.2 x0 m0 rfl
    have HN1 := hidden (NodeAt.toOff (n := w.heap.size + 1) (N := w1.heap.size) hn1 (by simp) (Nat.le_refl _))
    have HR1 := hidden hr1
    have HA := hidden (show pieceE g (p.drop k) = (postE ((p.drop k).length + 1) x0 (p.drop (k + m0))).far m0 by unfold pieceE; rw [hx]; simp only []; rw [List.drop_drop])
    obtain ⟨NB, hNB⟩ : ∃ N, N = w1.heap.size := ⟨_, rfl⟩
    rw [← hNB] at HN1
    clear hx hr1 hg1 hn1 hmm HT
    go_wp2_with fail
    rw [← hNB]
    go_loopw [6] (fun _ wr => ∃ (q n : Nat) (x : Nd) (z y0 y1 y2 y3 : Int) (sa : Option Addr) (sn sc : Nat) (lo hi : Int), q ≤ p.length ∧ k < q ∧ Hid (PK w R NB p q o z y0 y1 y2 y3 sa sn sc lo hi x wr ∧ (p.drop q).length < n ∧ pieceE g (p.drop k) = (postE n x (p.drop q)).far (q - k)))
      (fun _ wr => p.length - posOf wr R)
    case atStart =>
      refine ⟨k + m0, (p.drop k).length + 1, x0, z, y0, y1, y2, y3, sa, sn, sc, lo, hi, by omega, by omega, ⟨by (with_reducible (repeat (first | exact HG1.out | apply Gr.alloc | apply Gr.put | apply Gr.own | apply Gr.new | apply Gr.drewN | apply Gr.drew | omega))), by (with_reducible (repeat (first | exact HR1.out | apply RdAt.alloc | apply RdAt.put | apply RdAt.set1 | apply RdAt.set1i | apply RdAt.set2 | apply RdAt.set2i | apply RdAt.other | apply RdAt.drewN | apply RdAt.drew | exact (Int.natCast_succ _).symm | omega))), by (with_reducible (repeat (first | exact HZ1.out | (apply Blk.newAt; simp; done) | apply Blk.alloc | apply Blk.put | apply Blk.putOther | apply Blk.other | apply Blk.drewN | apply Blk.drew | omega))), by rw [hNB]; exact Blk.new _ _ _ _ _ _ _ _ _, by (with_reducible (repeat (first | exact HN1.out | apply NodeAt.alloc | apply NodeAt.putN | apply NodeAt.other | apply NodeAt.putO | apply NodeAt.otherO | apply NodeAt.drewN | apply NodeAt.drew | omega)))⟩, by rw [List.length_drop, List.length_drop]; omega, ?_⟩
      rw [HA.out, show k + m0 - k = m0 by omega]
    case round =>
      obtain ⟨q, n, x, z, y0, y1, y2, y3, sa, sn, sc, lo, hi, hq, hkq, hK0, hn, hpost⟩ := hrel
      have HK0 := hidden hK0
      have HP := hidden hpost
      have HK := HK0
      have hRl := HK.out.rd.lt
      have hNl := HK.out.blk.lt
      have hZl := HK.out.zero.lt
      obtain ⟨r0, r1, r2⟩ := HK.out.rd.cells
      obtain ⟨t0, t1, t2⟩ := HK.out.rd.thawed
      obtain ⟨z0, z1, z2, z3, z4, z5, z6, z7⟩ := HK.out.zero.cells
      obtain ⟨f0, f1, f2, f3, f4, f5, f6, f7⟩ := HK.out.zero.thawed
      obtain ⟨b0, b1, b2, b3, b4, b5, b6, b7⟩ := HK.out.blk.cells
      obtain ⟨g0, g1, g2, g3, g4, g5, g6, g7⟩ := HK.out.blk.thawed
      have hRN : R < NB := by omega
      have hZN : w.heap.size < NB := by omega
      have HNB := hidden hNB
      rw [List.length_drop] at hn
      clear hK0 hpost hNB
      by_cases hlt : q < p.length
      · have hne : p.drop q ≠ [] := drop_ne hlt
        have hli : (q : Int) < p.length := by omega
        obtain ⟨c, hc⟩ : ∃ c, c = p.getD q 0 := ⟨_, rfl⟩
        have hb : ∀ h, (⟨p.toArray⟩ : ByteArray)[q]'h = c := fun h => by rw [byte_at, hc]
        have hcg : (p.drop q).getD 0 0 = c := by rw [getD_byte, hc]
        clear hc hne
        by_cases e42 : c = 42
        · subst e42
          obtain ⟨n, rfl⟩ : ∃ m, n = m + 1 := ⟨n - 1, by omega⟩
          have HP2 := hidden (show pieceE g (p.drop k) = (postE n (timesN x 0 (-1)) (p.drop (q + 1))).far (q + 1 - k) by
            rw [HP.out, postE, if_pos hcg, far_far, List.drop_drop, show q - k + 1 = q + 1 - k by omega])
          clear hcg 
          go_wp2_with fail
          go_quiet (fail)
          go_wp2_with fail
          go_quiet (fail)
          go_wp2_with fail
          go_quiet (fail)
          generalize hW2 : World.drewN _ nq = W2
          have HK2 := hidden (show PK w R NB p q o z y0 y1 y2 y3 sa sn sc lo hi x W2 by rw [← hW2]; first | exact HK.out.drewN _ | exact (HK.out.drewN _).drewN _ | exact ((HK.out.drewN _).drewN _).drewN _)
          clear hW2 hRl hNl hZl r0 r1 r2 t0 t1 t2 z0 z1 z2 z3 z4 z5 z6 z7 f0 f1 f2 f3 f4 f5 f6 f7 b0 b1 b2 b3 b4 b5 b6 b7 g0 g1 g2 g3 g4 g5 g6 g7 HK
          rename Hid (PK w R NB p q o z y0 y1 y2 y3 sa sn sc lo hi x W2) => HK
          have hRl := HK.out.rd.lt
          have hNl := HK.out.blk.lt
          have hZl := HK.out.zero.lt
          obtain ⟨r0, r1, r2⟩ := HK.out.rd.cells
          obtain ⟨t0, t1, t2⟩ := HK.out.rd.thawed
          obtain ⟨z0, z1, z2, z3, z4, z5, z6, z7⟩ := HK.out.zero.cells
          obtain ⟨f0, f1, f2, f3, f4, f5, f6, f7⟩ := HK.out.zero.thawed
          obtain ⟨b0, b1, b2, b3, b4, b5, b6, b7⟩ := HK.out.blk.cells
          obtain ⟨g0, g1, g2, g3, g4, g5, g6, g7⟩ := HK.out.blk.thawed
          go_wp2_with fail
          go_roundw
          case rel =>
            refine ⟨q + 1, n, timesN x 0 (-1), 5, 0, 0, 0, 0, some ⟨W2.heap.size, 0, none⟩, 1, 1, 0, -1, by omega, by omega, ⟨by (with_reducible (repeat (first | exact HK.out.gr | apply Gr.alloc | apply Gr.put | apply Gr.own | apply Gr.new | apply Gr.drewN | apply Gr.drew | omega))), by (with_reducible (repeat (first | exact HK.out.rd | apply RdAt.alloc | apply RdAt.put | apply RdAt.set1 | apply RdAt.set1i | apply RdAt.set2 | apply RdAt.set2i | apply RdAt.other | apply RdAt.drewN | apply RdAt.drew | exact (Int.natCast_succ _).symm | omega))), by (with_reducible (repeat (first | exact HK.out.zero | (apply Blk.newAt; simp; done) | apply Blk.alloc | apply Blk.put | apply Blk.putOther | apply Blk.other | apply Blk.drewN | apply Blk.drew | omega))), by (with_reducible (repeat (first | exact HK.out.blk | (apply Blk.newAt; simp; done) | apply Blk.alloc | apply Blk.put | apply Blk.putOther | apply Blk.other | apply Blk.drewN | apply Blk.drew | omega))), ?_⟩, by rw [List.length_drop]; omega, HP2.out⟩
            refine times_at (c0 := .int .i64 z) (c1 := .int .u64 y0) (c2 := .int .u64 y1) (c3 := .int .u64 y2) (c4 := .int .u64 y3) (c5 := .slice sa sn sc) (c6 := .int .i64 lo) (c7 := .int .i64 hi) ?_ ?_ ⟨by omega, by omega⟩ rfl
            · (with_reducible (repeat (first | exact HK.out.nd | apply NodeAt.alloc | apply NodeAt.putN | apply NodeAt.other | apply NodeAt.putO | apply NodeAt.otherO | apply NodeAt.drewN | apply NodeAt.drew | omega)))
            · (with_reducible (repeat (first | exact HK.out.blk | (apply Blk.newAt; simp; done) | apply Blk.alloc | apply Blk.put | apply Blk.putOther | apply Blk.other | apply Blk.drewN | apply Blk.drew | omega)))
          case measure => exact RdAt.less (p := p) (k := q) (k' := q + 1) (o := (o : Int)) (o' := (o : Int)) (by (with_reducible (repeat (first | exact HK.out.rd | apply RdAt.alloc | apply RdAt.put | apply RdAt.set1 | apply RdAt.set1i | apply RdAt.set2 | apply RdAt.set2i | apply RdAt.other | apply RdAt.drewN | apply RdAt.drew | exact (Int.natCast_succ _).symm | omega)))) HK0.out.rd (by omega) (by omega)
        have n42 := byte_ne (n := 42) e42
        by_cases e43 : c = 43
        · subst e43
          obtain ⟨n, rfl⟩ : ∃ m, n = m + 1 := ⟨n - 1, by omega⟩
          have HP2 := hidden (show pieceE g (p.drop k) = (postE n (timesN x 1 (-1)) (p.drop (q + 1))).far (q + 1 - k) by
            rw [HP.out, postE, hcg, if_neg (by decide), if_pos rfl, far_far, List.drop_drop, show q - k + 1 = q + 1 - k by omega])
          clear hcg e42
          go_wp2_with fail
          go_quiet (fail)
          go_wp2_with fail
          go_quiet (fail)
          go_wp2_with fail
          go_quiet (fail)
          generalize hW2 : World.drewN _ nq = W2
          have HK2 := hidden (show PK w R NB p q o z y0 y1 y2 y3 sa sn sc lo hi x W2 by rw [← hW2]; first | exact HK.out.drewN _ | exact (HK.out.drewN _).drewN _ | exact ((HK.out.drewN _).drewN _).drewN _)
          clear hW2 hRl hNl hZl r0 r1 r2 t0 t1 t2 z0 z1 z2 z3 z4 z5 z6 z7 f0 f1 f2 f3 f4 f5 f6 f7 b0 b1 b2 b3 b4 b5 b6 b7 g0 g1 g2 g3 g4 g5 g6 g7 HK
          rename Hid (PK w R NB p q o z y0 y1 y2 y3 sa sn sc lo hi x W2) => HK
          have hRl := HK.out.rd.lt
          have hNl := HK.out.blk.lt
          have hZl := HK.out.zero.lt
          obtain ⟨r0, r1, r2⟩ := HK.out.rd.cells
          obtain ⟨t0, t1, t2⟩ := HK.out.rd.thawed
          obtain ⟨z0, z1, z2, z3, z4, z5, z6, z7⟩ := HK.out.zero.cells
          obtain ⟨f0, f1, f2, f3, f4, f5, f6, f7⟩ := HK.out.zero.thawed
          obtain ⟨b0, b1, b2, b3, b4, b5, b6, b7⟩ := HK.out.blk.cells
          obtain ⟨g0, g1, g2, g3, g4, g5, g6, g7⟩ := HK.out.blk.thawed
          go_wp2_with fail
          go_roundw
          case rel =>
            refine ⟨q + 1, n, timesN x 1 (-1), 5, 0, 0, 0, 0, some ⟨W2.heap.size, 0, none⟩, 1, 1, 1, -1, by omega, by omega, ⟨by (with_reducible (repeat (first | exact HK.out.gr | apply Gr.alloc | apply Gr.put | apply Gr.own | apply Gr.new | apply Gr.drewN | apply Gr.drew | omega))), by (with_reducible (repeat (first | exact HK.out.rd | apply RdAt.alloc | apply RdAt.put | apply RdAt.set1 | apply RdAt.set1i | apply RdAt.set2 | apply RdAt.set2i | apply RdAt.other | apply RdAt.drewN | apply RdAt.drew | exact (Int.natCast_succ _).symm | omega))), by (with_reducible (repeat (first | exact HK.out.zero | (apply Blk.newAt; simp; done) | apply Blk.alloc | apply Blk.put | apply Blk.putOther | apply Blk.other | apply Blk.drewN | apply Blk.drew | omega))), by (with_reducible (repeat (first | exact HK.out.blk | (apply Blk.newAt; simp; done) | apply Blk.alloc | apply Blk.put | apply Blk.putOther | apply Blk.other | apply Blk.drewN | apply Blk.drew | omega))), ?_⟩, by rw [List.length_drop]; omega, HP2.out⟩
            refine times_at (c0 := .int .i64 z) (c1 := .int .u64 y0) (c2 := .int .u64 y1) (c3 := .int .u64 y2) (c4 := .int .u64 y3) (c5 := .slice sa sn sc) (c6 := .int .i64 lo) (c7 := .int .i64 hi) ?_ ?_ ⟨by omega, by omega⟩ rfl
            · (with_reducible (repeat (first | exact HK.out.nd | apply NodeAt.alloc | apply NodeAt.putN | apply NodeAt.other | apply NodeAt.putO | apply NodeAt.otherO | apply NodeAt.drewN | apply NodeAt.drew | omega)))
            · (with_reducible (repeat (first | exact HK.out.blk | (apply Blk.newAt; simp; done) | apply Blk.alloc | apply Blk.put | apply Blk.putOther | apply Blk.other | apply Blk.drewN | apply Blk.drew | omega)))
          case measure => exact RdAt.less (p := p) (k := q) (k' := q + 1) (o := (o : Int)) (o' := (o : Int)) (by (with_reducible (repeat (first | exact HK.out.rd | apply RdAt.alloc | apply RdAt.put | apply RdAt.set1 | apply RdAt.set1i | apply RdAt.set2 | apply RdAt.set2i | apply RdAt.other | apply RdAt.drewN | apply RdAt.drew | exact (Int.natCast_succ _).symm | omega)))) HK0.out.rd (by omega) (by omega)
        have n43 := byte_ne (n := 43) e43
        by_cases e63 : c = 63
        · subst e63
          obtain ⟨n, rfl⟩ : ∃ m, n = m + 1 := ⟨n - 1, by omega⟩
          have HP2 := hidden (show pieceE g (p.drop k) = (postE n (timesN x 0 (1)) (p.drop (q + 1))).far (q + 1 - k) by
            rw [HP.out, postE, hcg, if_neg (by decide), if_neg (by decide), if_pos rfl, far_far, List.drop_drop, show q - k + 1 = q + 1 - k by omega])
          clear hcg e42 e43
          go_wp2_with fail
          go_quiet (fail)
          go_wp2_with fail
          go_quiet (fail)
          go_wp2_with fail
          go_quiet (fail)
          generalize hW2 : World.drewN _ nq = W2
          have HK2 := hidden (show PK w R NB p q o z y0 y1 y2 y3 sa sn sc lo hi x W2 by rw [← hW2]; first | exact HK.out.drewN _ | exact (HK.out.drewN _).drewN _ | exact ((HK.out.drewN _).drewN _).drewN _)
          clear hW2 hRl hNl hZl r0 r1 r2 t0 t1 t2 z0 z1 z2 z3 z4 z5 z6 z7 f0 f1 f2 f3 f4 f5 f6 f7 b0 b1 b2 b3 b4 b5 b6 b7 g0 g1 g2 g3 g4 g5 g6 g7 HK
          rename Hid (PK w R NB p q o z y0 y1 y2 y3 sa sn sc lo hi x W2) => HK
          have hRl := HK.out.rd.lt
          have hNl := HK.out.blk.lt
          have hZl := HK.out.zero.lt
          obtain ⟨r0, r1, r2⟩ := HK.out.rd.cells
          obtain ⟨t0, t1, t2⟩ := HK.out.rd.thawed
          obtain ⟨z0, z1, z2, z3, z4, z5, z6, z7⟩ := HK.out.zero.cells
          obtain ⟨f0, f1, f2, f3, f4, f5, f6, f7⟩ := HK.out.zero.thawed
          obtain ⟨b0, b1, b2, b3, b4, b5, b6, b7⟩ := HK.out.blk.cells
          obtain ⟨g0, g1, g2, g3, g4, g5, g6, g7⟩ := HK.out.blk.thawed
          go_wp2_with fail
          go_roundw
          case rel =>
            refine ⟨q + 1, n, timesN x 0 (1), 5, 0, 0, 0, 0, some ⟨W2.heap.size, 0, none⟩, 1, 1, 0, 1, by omega, by omega, ⟨by (with_reducible (repeat (first | exact HK.out.gr | apply Gr.alloc | apply Gr.put | apply Gr.own | apply Gr.new | apply Gr.drewN | apply Gr.drew | omega))), by (with_reducible (repeat (first | exact HK.out.rd | apply RdAt.alloc | apply RdAt.put | apply RdAt.set1 | apply RdAt.set1i | apply RdAt.set2 | apply RdAt.set2i | apply RdAt.other | apply RdAt.drewN | apply RdAt.drew | exact (Int.natCast_succ _).symm | omega))), by (with_reducible (repeat (first | exact HK.out.zero | (apply Blk.newAt; simp; done) | apply Blk.alloc | apply Blk.put | apply Blk.putOther | apply Blk.other | apply Blk.drewN | apply Blk.drew | omega))), by (with_reducible (repeat (first | exact HK.out.blk | (apply Blk.newAt; simp; done) | apply Blk.alloc | apply Blk.put | apply Blk.putOther | apply Blk.other | apply Blk.drewN | apply Blk.drew | omega))), ?_⟩, by rw [List.length_drop]; omega, HP2.out⟩
            refine times_at (c0 := .int .i64 z) (c1 := .int .u64 y0) (c2 := .int .u64 y1) (c3 := .int .u64 y2) (c4 := .int .u64 y3) (c5 := .slice sa sn sc) (c6 := .int .i64 lo) (c7 := .int .i64 hi) ?_ ?_ ⟨by omega, by omega⟩ rfl
            · (with_reducible (repeat (first | exact HK.out.nd | apply NodeAt.alloc | apply NodeAt.putN | apply NodeAt.other | apply NodeAt.putO | apply NodeAt.otherO | apply NodeAt.drewN | apply NodeAt.drew | omega)))
            · (with_reducible (repeat (first | exact HK.out.blk | (apply Blk.newAt; simp; done) | apply Blk.alloc | apply Blk.put | apply Blk.putOther | apply Blk.other | apply Blk.drewN | apply Blk.drew | omega)))
          case measure => exact RdAt.less (p := p) (k := q) (k' := q + 1) (o := (o : Int)) (o' := (o : Int)) (by (with_reducible (repeat (first | exact HK.out.rd | apply RdAt.alloc | apply RdAt.put | apply RdAt.set1 | apply RdAt.set1i | apply RdAt.set2 | apply RdAt.set2i | apply RdAt.other | apply RdAt.drewN | apply RdAt.drew | exact (Int.natCast_succ _).symm | omega)))) HK0.out.rd (by omega) (by omega)
        have n63 := byte_ne (n := 63) e63
        by_cases e123 : c = 123
        · subst e123
          obtain ⟨n, rfl⟩ : ∃ m, n = m + 1 := ⟨n - 1, by omega⟩
          have hP : pieceE g (p.drop k) = (match timesR (p.drop (q + 1)) with | none => (Rs.er 0 2 : Rs Nd) | some r => (postE n (timesN x r.1 r.2.1) (p.drop (q + (1 + r.2.2)))).far (1 + r.2.2)).far (q - k) := by
            rw [HP.out, postE, hcg, if_neg (by decide), if_neg (by decide), if_neg (by decide), if_pos rfl, List.drop_drop]
            cases timesR (p.drop (q + 1)) with
            | none => rfl
            | some r => simp only [List.drop_drop]
          have HT1 := hidden (show ∀ W, Calls Try.prog 38 #[.string ⟨p.toArray⟩, .int .i64 ((q : Int) + 1)] W fun e w' => e = .returned (timesAns (q + 1) (timesR (p.drop (q + 1)))) ∧ w' = W from fun W => times_any p (q + 1) W (by omega) (by omega))
          clear hcg e42 e43 e63
          cases ht : timesR (p.drop (q + 1)) with
          | none =>
            have HF := hidden (show pieceE g (p.drop k) = .er (q - k) 2 by rw [hP, ht]; rfl)
            have HT2 := HT1
            rw [ht, show timesAns (q + 1) none = .tuple #[.int .i64 0, .int .i64 0, .int .i64 0, .bool false] from rfl] at HT2
            clear hP ht
            go_wp2_with fail
            go_quiet (fail)
            go_wp2_with fail
            go_quiet (fail)
            go_wp2_with fail
            go_quiet (fail)
            generalize hW2 : World.drewN _ nq = W2
            have HK2 := hidden (show PK w R NB p q o z y0 y1 y2 y3 sa sn sc lo hi x W2 by rw [← hW2]; first | exact HK.out.drewN _ | exact (HK.out.drewN _).drewN _ | exact ((HK.out.drewN _).drewN _).drewN _)
            clear hW2 hRl hNl hZl r0 r1 r2 t0 t1 t2 z0 z1 z2 z3 z4 z5 z6 z7 f0 f1 f2 f3 f4 f5 f6 f7 b0 b1 b2 b3 b4 b5 b6 b7 g0 g1 g2 g3 g4 g5 g6 g7 HK
            rename Hid (PK w R NB p q o z y0 y1 y2 y3 sa sn sc lo hi x W2) => HK
            have hRl := HK.out.rd.lt
            have hNl := HK.out.blk.lt
            have hZl := HK.out.zero.lt
            obtain ⟨r0, r1, r2⟩ := HK.out.rd.cells
            obtain ⟨t0, t1, t2⟩ := HK.out.rd.thawed
            obtain ⟨z0, z1, z2, z3, z4, z5, z6, z7⟩ := HK.out.zero.cells
            obtain ⟨f0, f1, f2, f3, f4, f5, f6, f7⟩ := HK.out.zero.thawed
            obtain ⟨b0, b1, b2, b3, b4, b5, b6, b7⟩ := HK.out.blk.cells
            obtain ⟨g0, g1, g2, g3, g4, g5, g6, g7⟩ := HK.out.blk.thawed
            go_wp2_with fail
            go_quiet ((go_at_call 38; exact Calls.quiet_of_same (HT2.out _)))
            go_wp2_with fail
            refine bodyPost_ret (results_node2 rfl _ _ w.heap.size (.int .i64 0) (.int .u64 0) (.int .u64 0) (.int .u64 0) (.int .u64 0) (.slice none 0 0) (.int .i64 0) (.int .i64 0) rfl (by (with_reducible (repeat (first | exact HK.out.zero | (apply Blk.newAt; simp; done) | apply Blk.alloc | apply Blk.put | apply Blk.putOther | apply Blk.other | apply Blk.drewN | apply Blk.drew | omega))))) rfl ?_
            rw [HF.out]
            exact ⟨by (with_reducible (repeat (first | exact HK.out.gr | apply Gr.alloc | apply Gr.put | apply Gr.own | apply Gr.new | apply Gr.drewN | apply Gr.drew | omega))), rfl, by decide, _, by rw [show k + (q - k) = q by omega]; (with_reducible (repeat (first | exact HK.out.rd | apply RdAt.alloc | apply RdAt.put | apply RdAt.set1 | apply RdAt.set1i | apply RdAt.set2 | apply RdAt.set2i | apply RdAt.other | apply RdAt.drewN | apply RdAt.drew | exact (Int.natCast_succ _).symm | omega)))⟩
          | some r =>
            obtain ⟨rlo, rhi, rm⟩ := r
            have hrm := timesR_le ht
            rw [List.length_drop] at hrm
            have hrm1 : 1 ≤ rm := hrm.1
            have hrm2 : rm ≤ p.length - (q + 1) := hrm.2
            obtain ⟨q2, hq2⟩ : ∃ q2, q2 = q + 1 + rm := ⟨_, rfl⟩
            have HP2 := hidden (show pieceE g (p.drop k) = (postE n (timesN x rlo rhi) (p.drop q2)).far (q2 - k) by
              rw [hP, ht]
              simp only []
              rw [far_far, show q + (1 + rm) = q2 by omega, show q - k + (1 + rm) = q2 - k by omega])
            have HT2 := HT1
            rw [ht, show timesAns (q + 1) (some (rlo, rhi, rm)) = .tuple #[.int .i64 rlo, .int .i64 rhi, .int .i64 q2, .bool true] by rw [hq2]; rfl] at HT2
            have hq2p : q2 ≤ p.length := by omega
            have hqq2 : q + 1 < q2 := by omega
            clear hP ht hrm hrm1 hrm2 hq2
            go_wp2_with fail
            go_quiet (fail)
            go_wp2_with fail
            go_quiet (fail)
            go_wp2_with fail
            go_quiet (fail)
            generalize hW2 : World.drewN _ nq = W2
            have HK2 := hidden (show PK w R NB p q o z y0 y1 y2 y3 sa sn sc lo hi x W2 by rw [← hW2]; first | exact HK.out.drewN _ | exact (HK.out.drewN _).drewN _ | exact ((HK.out.drewN _).drewN _).drewN _)
            clear hW2 hRl hNl hZl r0 r1 r2 t0 t1 t2 z0 z1 z2 z3 z4 z5 z6 z7 f0 f1 f2 f3 f4 f5 f6 f7 b0 b1 b2 b3 b4 b5 b6 b7 g0 g1 g2 g3 g4 g5 g6 g7 HK
            rename Hid (PK w R NB p q o z y0 y1 y2 y3 sa sn sc lo hi x W2) => HK
            have hRl := HK.out.rd.lt
            have hNl := HK.out.blk.lt
            have hZl := HK.out.zero.lt
            obtain ⟨r0, r1, r2⟩ := HK.out.rd.cells
            obtain ⟨t0, t1, t2⟩ := HK.out.rd.thawed
            obtain ⟨z0, z1, z2, z3, z4, z5, z6, z7⟩ := HK.out.zero.cells
            obtain ⟨f0, f1, f2, f3, f4, f5, f6, f7⟩ := HK.out.zero.thawed
            obtain ⟨b0, b1, b2, b3, b4, b5, b6, b7⟩ := HK.out.blk.cells
            obtain ⟨g0, g1, g2, g3, g4, g5, g6, g7⟩ := HK.out.blk.thawed
            go_wp2_with fail
            go_quiet ((go_at_call 38; exact Calls.quiet_of_same (HT2.out _)))
            generalize hW2 : World.drewN _ nq = W3
            have HK3 := hidden (show PK w R NB p q o z y0 y1 y2 y3 sa sn sc lo hi x W3 by rw [← hW2]; first | exact HK.out.drewN _ | exact (HK.out.drewN _).drewN _ | exact ((HK.out.drewN _).drewN _).drewN _)
            clear hW2 hRl hNl hZl r0 r1 r2 t0 t1 t2 z0 z1 z2 z3 z4 z5 z6 z7 f0 f1 f2 f3 f4 f5 f6 f7 b0 b1 b2 b3 b4 b5 b6 b7 g0 g1 g2 g3 g4 g5 g6 g7 HK
            rename Hid (PK w R NB p q o z y0 y1 y2 y3 sa sn sc lo hi x W3) => HK
            have hRl := HK.out.rd.lt
            have hNl := HK.out.blk.lt
            have hZl := HK.out.zero.lt
            obtain ⟨r0, r1, r2⟩ := HK.out.rd.cells
            obtain ⟨t0, t1, t2⟩ := HK.out.rd.thawed
            obtain ⟨z0, z1, z2, z3, z4, z5, z6, z7⟩ := HK.out.zero.cells
            obtain ⟨f0, f1, f2, f3, f4, f5, f6, f7⟩ := HK.out.zero.thawed
            obtain ⟨b0, b1, b2, b3, b4, b5, b6, b7⟩ := HK.out.blk.cells
            obtain ⟨g0, g1, g2, g3, g4, g5, g6, g7⟩ := HK.out.blk.thawed
            go_wp2_with fail
            go_roundw
            case rel =>
              refine ⟨q2, n, timesN x rlo rhi, 5, 0, 0, 0, 0, some ⟨W3.heap.size, 0, none⟩, 1, 1, rlo, rhi, by omega, by omega, ⟨by (with_reducible (repeat (first | exact HK.out.gr | apply Gr.alloc | apply Gr.put | apply Gr.own | apply Gr.new | apply Gr.drewN | apply Gr.drew | omega))), by (with_reducible (repeat (first | exact HK.out.rd | apply RdAt.alloc | apply RdAt.put | apply RdAt.set1 | apply RdAt.set1i | apply RdAt.set2 | apply RdAt.set2i | apply RdAt.other | apply RdAt.drewN | apply RdAt.drew | exact (Int.natCast_succ _).symm | omega))), by (with_reducible (repeat (first | exact HK.out.zero | (apply Blk.newAt; simp; done) | apply Blk.alloc | apply Blk.put | apply Blk.putOther | apply Blk.other | apply Blk.drewN | apply Blk.drew | omega))), by (with_reducible (repeat (first | exact HK.out.blk | (apply Blk.newAt; simp; done) | apply Blk.alloc | apply Blk.put | apply Blk.putOther | apply Blk.other | apply Blk.drewN | apply Blk.drew | omega))), ?_⟩, by rw [List.length_drop]; omega, HP2.out⟩
              refine times_at (c0 := .int .i64 z) (c1 := .int .u64 y0) (c2 := .int .u64 y1) (c3 := .int .u64 y2) (c4 := .int .u64 y3) (c5 := .slice sa sn sc) (c6 := .int .i64 lo) (c7 := .int .i64 hi) ?_ ?_ ⟨by omega, by omega⟩ rfl
              · (with_reducible (repeat (first | exact HK.out.nd | apply NodeAt.alloc | apply NodeAt.putN | apply NodeAt.other | apply NodeAt.putO | apply NodeAt.otherO | apply NodeAt.drewN | apply NodeAt.drew | omega)))
              · (with_reducible (repeat (first | exact HK.out.blk | (apply Blk.newAt; simp; done) | apply Blk.alloc | apply Blk.put | apply Blk.putOther | apply Blk.other | apply Blk.drewN | apply Blk.drew | omega)))
            case measure => exact RdAt.less (p := p) (k := q) (k' := q2) (o := (o : Int)) (o' := (o : Int)) (by (with_reducible (repeat (first | exact HK.out.rd | apply RdAt.alloc | apply RdAt.put | apply RdAt.set1 | apply RdAt.set1i | apply RdAt.set2 | apply RdAt.set2i | apply RdAt.other | apply RdAt.drewN | apply RdAt.drew | exact (Int.natCast_succ _).symm | omega)))) HK0.out.rd (by omega) (by omega)
        have n123 := byte_ne (n := 123) e123
        have HF := hidden (show pieceE g (p.drop k) = .ok x (q - k) by
          rw [HP.out]
          obtain ⟨n, rfl⟩ : ∃ m, n = m + 1 := ⟨n - 1, by omega⟩
          rw [postE, hcg, if_neg e42, if_neg e43, if_neg e63, if_neg e123]
          rfl)
        clear hcg e42 e43 e63 e123
        go_wp2_with fail
        go_quiet (fail)
        go_wp2_with fail
        go_quiet (fail)
        go_wp2_with fail
        go_quiet (fail)
        go_wp2_with fail
        refine bodyPost_ret (results_node2 rfl _ _ w.heap.size (.int .i64 z) (.int .u64 y0) (.int .u64 y1) (.int .u64 y2) (.int .u64 y3) (.slice sa sn sc) (.int .i64 lo) (.int .i64 hi) rfl (by (with_reducible (repeat (first | exact HK.out.zero | (apply Blk.newAt; simp; done) | apply Blk.alloc | apply Blk.put | apply Blk.putOther | apply Blk.other | apply Blk.drewN | apply Blk.drew | omega))))) rfl ?_
        rw [HF.out]
        exact ⟨by (with_reducible (repeat (first | exact HK.out.gr | apply Gr.alloc | apply Gr.put | apply Gr.own | apply Gr.new | apply Gr.drewN | apply Gr.drew | omega))), _, rfl, by refine NodeAt.ofOff (n := w.heap.size + 1) (N := NB) ?_ (by omega); (with_reducible (repeat (first | exact HK.out.nd | apply NodeAt.alloc | apply NodeAt.putN | apply NodeAt.other | apply NodeAt.putO | apply NodeAt.otherO | apply NodeAt.drewN | apply NodeAt.drew | omega))), by rw [show k + (q - k) = q by omega]; (with_reducible (repeat (first | exact HK.out.rd | apply RdAt.alloc | apply RdAt.put | apply RdAt.set1 | apply RdAt.set1i | apply RdAt.set2 | apply RdAt.set2i | apply RdAt.other | apply RdAt.drewN | apply RdAt.drew | exact (Int.natCast_succ _).symm | omega)))⟩
      · have hli : ¬ (q : Int) < p.length := by omega
        have hld : decide ((q : Int) < p.length) = false := by simp; omega
        have HF := hidden (show pieceE g (p.drop k) = .ok x (q - k) by
          rw [HP.out, List.drop_eq_nil_of_le (by omega)]
          obtain ⟨n, rfl⟩ : ∃ m, n = m + 1 := ⟨n - 1, by omega⟩
          rw [postE]
          rfl)
        go_wp2_with fail
        go_quiet (fail)
        go_wp2_with fail
        refine bodyPost_ret (results_node2 rfl _ _ w.heap.size (.int .i64 z) (.int .u64 y0) (.int .u64 y1) (.int .u64 y2) (.int .u64 y3) (.slice sa sn sc) (.int .i64 lo) (.int .i64 hi) rfl (by (with_reducible (repeat (first | exact HK.out.zero | (apply Blk.newAt; simp; done) | apply Blk.alloc | apply Blk.put | apply Blk.putOther | apply Blk.other | apply Blk.drewN | apply Blk.drew | omega))))) rfl ?_
        rw [HF.out]
        exact ⟨by (with_reducible (repeat (first | exact HK.out.gr | apply Gr.alloc | apply Gr.put | apply Gr.own | apply Gr.new | apply Gr.drewN | apply Gr.drew | omega))), _, rfl, by refine NodeAt.ofOff (n := w.heap.size + 1) (N := NB) ?_ (by omega); (with_reducible (repeat (first | exact HK.out.nd | apply NodeAt.alloc | apply NodeAt.putN | apply NodeAt.other | apply NodeAt.putO | apply NodeAt.otherO | apply NodeAt.drewN | apply NodeAt.drew | omega))), by rw [show k + (q - k) = q by omega]; (with_reducible (repeat (first | exact HK.out.rd | apply RdAt.alloc | apply RdAt.put | apply RdAt.set1 | apply RdAt.set1i | apply RdAt.set2 | apply RdAt.set2i | apply RdAt.other | apply RdAt.drewN | apply RdAt.drew | exact (Int.natCast_succ _).symm | omega)))⟩

end Go.Proofs.Ytjeloflfhofdlaa
