/-
  What the program's branch answers, where its piece answers as it should: pieces, one behind the other; conditions: the text's length, and that the reader's block holds it.
-/
import Derived.Test.YtjeloflfhofdlaaELists
namespace Go.Proofs.Ytjeloflfhofdlaa
open Go.RowKit Go.Proofs.Ytjeloflfhofdlaa.Gl

theorem map_map {α β γ : Type} (f : α → β) (h : β → γ) (r : Rs α) : (r.map f).map h = r.map (h ∘ f) := by cases r <;> rfl
theorem map_far {α β : Type} (f : α → β) (k : Nat) (r : Rs α) : (r.far k).map f = (r.map f).far k := by cases r <;> rfl
/-- what is kept from piece to piece -/
structure BK (w : World) (R : Nat) (p : Tx) (q : Nat) (o : Int) (v : Value) (vs : List Value) (l : List Nd) (W : World) : Prop where
  gr : Gr R w W
  rd : RdAt W R p q o
  zero : ZeroAt W w.heap.size
  ln : LN (w.heap.size + 1) v vs l W
theorem BK.drewN {w W : World} {R : Nat} {p : Tx} {q : Nat} {o : Int} {v : Value} {vs : List Value} {l : List Nd} (h : BK w R p q o v vs l W) (n : Nat) : BK w R p q o v vs l (W.drewN n) :=
  ⟨h.gr.drewN n, h.rd.drewN n, h.zero.drewN n, h.ln.drewN n⟩
theorem ends_end {p : Tx} {q : Nat} (h : p.length ≤ q) : ends (p.drop q) = true := by rw [List.drop_eq_nil_of_le h]; rfl
theorem ends_is {p : Tx} {q : Nat} (h : q < p.length) : ends (p.drop q) = (p.getD q 0 == 124 || p.getD q 0 == 41) := by
  unfold ends
  rw [getD_byte]
  have : (p.drop q).isEmpty = false := by
    cases hd : p.drop q with
    | nil => exact absurd hd (drop_ne h)
    | cons a t => rfl
  rw [this]
  simp

set_option maxHeartbeats 8000000 in
theorem branch_any (g : Tx → Rs Nd) (o : Nat) (hg : Tame g) (hpc : Reads 33 (pieceE g) (o : Int)) : ReadsTo 24 (branchE g) (o : Int) := by
  intro p k R w hp hk hr
  have hR := hr.lt
  have HR0 := hidden hr
  have HZ0 := hidden (Blk.new w (.int .i64 0) (.int .u64 0) (.int .u64 0) (.int .u64 0) (.int .u64 0) (.slice none 0 0) (.int .i64 0) (.int .i64 0))
  have HX := hidden hpc
  have HT := hidden hg
  clear hr hpc hg
  go_enter Try.func24, Try.ntmps24
  go_wp2_with fail
  go_loopw [4] (fun v wr => ∃ (q n : Nat) (vs : List Value) (l : List Nd), q ≤ p.length ∧ k ≤ q ∧ l.length ≤ q - k ∧ Hid (BK w R p q o v vs l wr ∧ (p.drop q).length < n ∧ piecesE g ((p.drop k).length + 1) (p.drop k) = ((piecesE g n (p.drop q)).map (l ++ ·)).far (q - k)))
    (fun _ wr => p.length - posOf wr R)
  case atStart =>
    refine ⟨k, (p.drop k).length + 1, [], [], hk, Nat.le_refl _, Nat.zero_le _, ⟨by (with_reducible (repeat (first | exact Gr.refl _ _ | apply Gr.alloc | apply Gr.put | apply Gr.own | apply Gr.new | apply Gr.drewN | apply Gr.drew | omega))), by (with_reducible (repeat (first | exact HR0.out | apply RdAt.alloc | apply RdAt.put | apply RdAt.set1 | apply RdAt.set1i | apply RdAt.set2 | apply RdAt.set2i | apply RdAt.other | apply RdAt.drewN | apply RdAt.drew | exact (Int.natCast_succ _).symm | omega))), by (with_reducible (repeat (first | exact HZ0.out | (apply Blk.newAt; simp; done) | apply Blk.alloc | apply Blk.put | apply Blk.putOther | apply Blk.other | apply Blk.drewN | apply Blk.drew | omega))), LN.nil _ _⟩, by omega, ?_⟩
    rw [Nat.sub_self, far_zero]
    cases piecesE g ((p.drop k).length + 1) (p.drop k) <;> rfl
  case round =>
    obtain ⟨q, n, vs, l, hq, hkq, hll, hK0, hn, hpost⟩ := hrel
    have HK0 := hidden hK0
    have HP := hidden hpost
    have HK := HK0
    rw [List.length_drop] at hn
    clear hK0 hpost
    have hRl := HK.out.rd.lt
    have hZl := HK.out.zero.lt
    obtain ⟨r0, r1, r2⟩ := HK.out.rd.cells
    obtain ⟨t0, t1, t2⟩ := HK.out.rd.thawed
    obtain ⟨z0, z1, z2, z3, z4, z5, z6, z7⟩ := HK.out.zero.cells
    obtain ⟨f0, f1, f2, f3, f4, f5, f6, f7⟩ := HK.out.zero.thawed
    have HM1 := hidden (show ∀ m, Calls Try.prog 25 #[.pointer (some ⟨R, 0, none⟩), .int .u8 124] (wr.drewN m) fun e w' => e = .returned (.bool (meetB p q 124)) ∧ ∃ j, w' = (wr.drewN m).drewN j from fun m => meets_any p q R _ 124 _ (by omega) (HK0.out.rd.drewN m))
    have HM2 := hidden (show ∀ m, Calls Try.prog 25 #[.pointer (some ⟨R, 0, none⟩), .int .u8 41] (wr.drewN m) fun e w' => e = .returned (.bool (meetB p q 41)) ∧ ∃ j, w' = (wr.drewN m).drewN j from fun m => meets_any p q R _ 41 _ (by omega) (HK0.out.rd.drewN m))
    by_cases hlt : q < p.length
    · have hli : (q : Int) < p.length := by omega
      have hei := ends_is hlt
      obtain ⟨c, hc⟩ : ∃ c, c = p.getD q 0 := ⟨_, rfl⟩
      rw [← hc] at hei
      have hm1 : meetB p q 124 = (c == 124) := by unfold meetB; rw [← hc]; simp [hlt]
      have hm2 : meetB p q 41 = (c == 41) := by unfold meetB; rw [← hc]; simp [hlt]
      rw [hm1] at HM1
      rw [hm2] at HM2
      clear hc hm1 hm2
      obtain ⟨n, rfl⟩ : ∃ m, n = m + 1 := ⟨n - 1, by omega⟩
      by_cases e124 : c = 124
      · subst e124
        rw [show ((124 : UInt8) == 124) = true from rfl] at HM1
        have HE := hidden (show piecesE g ((p.drop k).length + 1) (p.drop k) = .ok l (q - k) by
          rw [HP.out, piecesE, if_pos (by rw [hei]; rfl)]
          simp [Rs.map, Rs.far])
        clear hei
        have hlen0 : l.length = 0 ∨ l.length ≠ 0 := by omega
        cases hlen0 with
        | inl h0 =>
          obtain rfl : l = [] := List.eq_nil_of_length_eq_zero h0
          have hv := HK.out.ln.own.2
          have hv2 : u4 = .slice none 0 0 ∨ ∃ g cap, u4 = .slice (some ⟨g, 0, none⟩) 0 cap := by
            rcases hv with ⟨h, _⟩ | ⟨g, cap, cur, h, _⟩
            · exact Or.inl h
            · exact Or.inr ⟨g, cap, h⟩
          have HF := hidden (show branchE g (p.drop k) = .ok (plainN 1) (q - k) by unfold branchE; rw [HE.out]; rfl)
          clear hv
          rcases hv2 with rfl | ⟨gg, cap, rfl⟩
          all_goals
            go_wp2_with fail
            go_quiet ((first | (go_at_call_has 25 ((.int .u8 124 : Value)); exact Calls.quiet_of (HM1.out _)) | (go_at_call_has 25 ((.int .u8 41 : Value)); exact Calls.quiet_of (HM2.out _))))
            generalize hW2 : World.drewN _ nq = W2
            have HK2 := HK.out.drewN nq
            rw [hW2] at HK2
            clear hW2 hRl hZl r0 r1 r2 t0 t1 t2 z0 z1 z2 z3 z4 z5 z6 z7 f0 f1 f2 f3 f4 f5 f6 f7 HK
            have HK := hidden HK2
            clear HK2
            have hRl := HK.out.rd.lt
            have hZl := HK.out.zero.lt
            obtain ⟨r0, r1, r2⟩ := HK.out.rd.cells
            obtain ⟨t0, t1, t2⟩ := HK.out.rd.thawed
            obtain ⟨z0, z1, z2, z3, z4, z5, z6, z7⟩ := HK.out.zero.cells
            obtain ⟨f0, f1, f2, f3, f4, f5, f6, f7⟩ := HK.out.zero.thawed
            go_wp2_with fail
            refine bodyPost_ret (results_node2 rfl _ _ w.heap.size (.int .i64 1) (.int .u64 0) (.int .u64 0) (.int .u64 0) (.int .u64 0) (.slice none 0 0) (.int .i64 0) (.int .i64 0) rfl (by (with_reducible (repeat (first | exact HK.out.zero | (apply Blk.newAt; simp; done) | apply Blk.alloc | apply Blk.put | apply Blk.putOther | apply Blk.other | apply Blk.drewN | apply Blk.drew | omega))))) rfl ?_
            rw [HF.out]
            exact ⟨by (with_reducible (repeat (first | exact HK.out.gr | apply Gr.alloc | apply Gr.put | apply Gr.own | apply Gr.new | apply Gr.drewN | apply Gr.drew | omega))), _, rfl, plainN_lit _ _ 1 1 rfl, by rw [show k + (q - k) = q by omega]; (with_reducible (repeat (first | exact HK.out.rd | apply RdAt.alloc | apply RdAt.put | apply RdAt.set1 | apply RdAt.set1i | apply RdAt.set2 | apply RdAt.set2i | apply RdAt.other | apply RdAt.drewN | apply RdAt.drew | exact (Int.natCast_succ _).symm | omega)))⟩
        | inr h0 =>
          have hne : l ≠ [] := fun e => h0 (by rw [e]; rfl)
          have HF := hidden (show branchE g (p.drop k) = .ok (together 3 l) (q - k) by unfold branchE; rw [HE.out]; simp only [Rs.map]; unfold catOf; rw [if_neg hne])
          obtain ⟨ga, gc, hv⟩ : ∃ ga gc, u4 = .slice ga l.length gc := by
            rcases HK.out.ln.own.2 with ⟨h, h2⟩ | ⟨g, cap, cur, h, _⟩
            · exact absurd h2 h0
            · exact ⟨_, _, h⟩
          subst hv
          have h0i : ¬ (l.length : Int) = 0 := by omega
          have h0b : ((l.length : Int) == 0) = false := by rw [beq_eq_false_iff_ne]; exact h0i
          have HNE := hidden hne
          clear hne h0
          go_wp2_with fail
          go_quiet ((first | (go_at_call_has 25 ((.int .u8 124 : Value)); exact Calls.quiet_of (HM1.out _)) | (go_at_call_has 25 ((.int .u8 41 : Value)); exact Calls.quiet_of (HM2.out _))))
          generalize hW2 : World.drewN _ nq = W2
          have HK2 := HK.out.drewN nq
          rw [hW2] at HK2
          clear hW2 hRl hZl r0 r1 r2 t0 t1 t2 z0 z1 z2 z3 z4 z5 z6 z7 f0 f1 f2 f3 f4 f5 f6 f7 HK
          have HK := hidden HK2
          clear HK2
          have hRl := HK.out.rd.lt
          have hZl := HK.out.zero.lt
          obtain ⟨r0, r1, r2⟩ := HK.out.rd.cells
          obtain ⟨t0, t1, t2⟩ := HK.out.rd.thawed
          obtain ⟨z0, z1, z2, z3, z4, z5, z6, z7⟩ := HK.out.zero.cells
          obtain ⟨f0, f1, f2, f3, f4, f5, f6, f7⟩ := HK.out.zero.thawed
          go_wp2_with fail
          refine (together_any 3 _ l (w.heap.size + 1) _ (by exact (LN.kids (by (with_reducible (repeat (first | exact HK.out.ln | apply LN.alloc | apply LN.put | apply LN.other | apply LN.drewN | apply LN.drew | omega)))))) HNE.out (by omega)).mono ?_
          rintro e w5 ⟨⟨v5, rfl, hn5⟩, hb5⟩
          obtain ⟨z, y0, y1, y2, y3, sa, sn, sc, lo, hi, rfl⟩ := hn5.shapeI
          have HG5 := hidden (Gr.below (R := R) (w := w) (by (with_reducible (repeat (first | exact HK.out.gr | apply Gr.alloc | apply Gr.put | apply Gr.own | apply Gr.new | apply Gr.drewN | apply Gr.drew | omega)))) hb5)
          have HR5 := hidden (RdAt.later (R := R) (p := p) (k := q) (o := (o : Int)) (by (with_reducible (repeat (first | exact HK.out.rd | apply RdAt.alloc | apply RdAt.put | apply RdAt.set1 | apply RdAt.set1i | apply RdAt.set2 | apply RdAt.set2i | apply RdAt.other | apply RdAt.drewN | apply RdAt.drew | exact (Int.natCast_succ _).symm | omega)))) hb5)
          have HZ5 := hidden (ZeroAt.later (b := w.heap.size) (by (with_reducible (repeat (first | exact HK.out.zero | (apply Blk.newAt; simp; done) | apply Blk.alloc | apply Blk.put | apply Blk.putOther | apply Blk.other | apply Blk.drewN | apply Blk.drew | omega)))) hb5)
          have HN5 := hidden hn5
          obtain ⟨z0, z1, z2, z3, z4, z5, z6, z7⟩ := HZ5.out.cells
          obtain ⟨f0, f1, f2, f3, f4, f5, f6, f7⟩ := HZ5.out.thawed
          have hzl := HZ5.out.lt
          clear hb5 hn5
          go_wp2_with fail
          refine bodyPost_ret (results_node2 rfl _ _ w.heap.size (.int .i64 z) (.int .u64 y0) (.int .u64 y1) (.int .u64 y2) (.int .u64 y3) (.slice sa sn sc) (.int .i64 lo) (.int .i64 hi) rfl (by (with_reducible (repeat (first | exact HZ5.out | (apply Blk.newAt; simp; done) | apply Blk.alloc | apply Blk.put | apply Blk.putOther | apply Blk.other | apply Blk.drewN | apply Blk.drew | omega))))) rfl ?_
          rw [HF.out]
          exact ⟨by (with_reducible (repeat (first | exact HG5.out | apply Gr.alloc | apply Gr.put | apply Gr.own | apply Gr.new | apply Gr.drewN | apply Gr.drew | omega))), _, rfl, by refine NodeAt.up (m := w.heap.size + 1) ?_ (by omega); (with_reducible (repeat (first | exact HN5.out | apply NodeAt.alloc | apply NodeAt.putN | apply NodeAt.other | apply NodeAt.putO | apply NodeAt.otherO | apply NodeAt.drewN | apply NodeAt.drew | omega))), by rw [show k + (q - k) = q by omega]; (with_reducible (repeat (first | exact HR5.out | apply RdAt.alloc | apply RdAt.put | apply RdAt.set1 | apply RdAt.set1i | apply RdAt.set2 | apply RdAt.set2i | apply RdAt.other | apply RdAt.drewN | apply RdAt.drew | exact (Int.natCast_succ _).symm | omega)))⟩
      rw [show (c == 124) = false from by simpa using e124] at HM1
      by_cases e41 : c = 41
      · subst e41
        rw [show ((41 : UInt8) == 41) = true from rfl] at HM2
        have HE := hidden (show piecesE g ((p.drop k).length + 1) (p.drop k) = .ok l (q - k) by
          rw [HP.out, piecesE, if_pos (by rw [hei]; rfl)]
          simp [Rs.map, Rs.far])
        clear hei e124
        have hlen0 : l.length = 0 ∨ l.length ≠ 0 := by omega
        cases hlen0 with
        | inl h0 =>
          obtain rfl : l = [] := List.eq_nil_of_length_eq_zero h0
          have hv := HK.out.ln.own.2
          have hv2 : u4 = .slice none 0 0 ∨ ∃ g cap, u4 = .slice (some ⟨g, 0, none⟩) 0 cap := by
            rcases hv with ⟨h, _⟩ | ⟨g, cap, cur, h, _⟩
            · exact Or.inl h
            · exact Or.inr ⟨g, cap, h⟩
          have HF := hidden (show branchE g (p.drop k) = .ok (plainN 1) (q - k) by unfold branchE; rw [HE.out]; rfl)
          clear hv
          rcases hv2 with rfl | ⟨gg, cap, rfl⟩
          all_goals
            go_wp2_with fail
            go_quiet ((first | (go_at_call_has 25 ((.int .u8 124 : Value)); exact Calls.quiet_of (HM1.out _)) | (go_at_call_has 25 ((.int .u8 41 : Value)); exact Calls.quiet_of (HM2.out _))))
            generalize hW2 : World.drewN _ nq = W2
            have HK2 := HK.out.drewN nq
            rw [hW2] at HK2
            clear hW2 hRl hZl r0 r1 r2 t0 t1 t2 z0 z1 z2 z3 z4 z5 z6 z7 f0 f1 f2 f3 f4 f5 f6 f7 HK
            have HK := hidden HK2
            clear HK2
            have hRl := HK.out.rd.lt
            have hZl := HK.out.zero.lt
            obtain ⟨r0, r1, r2⟩ := HK.out.rd.cells
            obtain ⟨t0, t1, t2⟩ := HK.out.rd.thawed
            obtain ⟨z0, z1, z2, z3, z4, z5, z6, z7⟩ := HK.out.zero.cells
            obtain ⟨f0, f1, f2, f3, f4, f5, f6, f7⟩ := HK.out.zero.thawed
            go_wp2_with fail
            refine bodyPost_ret (results_node2 rfl _ _ w.heap.size (.int .i64 1) (.int .u64 0) (.int .u64 0) (.int .u64 0) (.int .u64 0) (.slice none 0 0) (.int .i64 0) (.int .i64 0) rfl (by (with_reducible (repeat (first | exact HK.out.zero | (apply Blk.newAt; simp; done) | apply Blk.alloc | apply Blk.put | apply Blk.putOther | apply Blk.other | apply Blk.drewN | apply Blk.drew | omega))))) rfl ?_
            rw [HF.out]
            exact ⟨by (with_reducible (repeat (first | exact HK.out.gr | apply Gr.alloc | apply Gr.put | apply Gr.own | apply Gr.new | apply Gr.drewN | apply Gr.drew | omega))), _, rfl, plainN_lit _ _ 1 1 rfl, by rw [show k + (q - k) = q by omega]; (with_reducible (repeat (first | exact HK.out.rd | apply RdAt.alloc | apply RdAt.put | apply RdAt.set1 | apply RdAt.set1i | apply RdAt.set2 | apply RdAt.set2i | apply RdAt.other | apply RdAt.drewN | apply RdAt.drew | exact (Int.natCast_succ _).symm | omega)))⟩
        | inr h0 =>
          have hne : l ≠ [] := fun e => h0 (by rw [e]; rfl)
          have HF := hidden (show branchE g (p.drop k) = .ok (together 3 l) (q - k) by unfold branchE; rw [HE.out]; simp only [Rs.map]; unfold catOf; rw [if_neg hne])
          obtain ⟨ga, gc, hv⟩ : ∃ ga gc, u4 = .slice ga l.length gc := by
            rcases HK.out.ln.own.2 with ⟨h, h2⟩ | ⟨g, cap, cur, h, _⟩
            · exact absurd h2 h0
            · exact ⟨_, _, h⟩
          subst hv
          have h0i : ¬ (l.length : Int) = 0 := by omega
          have h0b : ((l.length : Int) == 0) = false := by rw [beq_eq_false_iff_ne]; exact h0i
          have HNE := hidden hne
          clear hne h0
          go_wp2_with fail
          go_quiet ((first | (go_at_call_has 25 ((.int .u8 124 : Value)); exact Calls.quiet_of (HM1.out _)) | (go_at_call_has 25 ((.int .u8 41 : Value)); exact Calls.quiet_of (HM2.out _))))
          generalize hW2 : World.drewN _ nq = W2
          have HK2 := HK.out.drewN nq
          rw [hW2] at HK2
          clear hW2 hRl hZl r0 r1 r2 t0 t1 t2 z0 z1 z2 z3 z4 z5 z6 z7 f0 f1 f2 f3 f4 f5 f6 f7 HK
          have HK := hidden HK2
          clear HK2
          have hRl := HK.out.rd.lt
          have hZl := HK.out.zero.lt
          obtain ⟨r0, r1, r2⟩ := HK.out.rd.cells
          obtain ⟨t0, t1, t2⟩ := HK.out.rd.thawed
          obtain ⟨z0, z1, z2, z3, z4, z5, z6, z7⟩ := HK.out.zero.cells
          obtain ⟨f0, f1, f2, f3, f4, f5, f6, f7⟩ := HK.out.zero.thawed
          go_wp2_with fail
          refine (together_any 3 _ l (w.heap.size + 1) _ (by exact (LN.kids (by (with_reducible (repeat (first | exact HK.out.ln | apply LN.alloc | apply LN.put | apply LN.other | apply LN.drewN | apply LN.drew | omega)))))) HNE.out (by omega)).mono ?_
          rintro e w5 ⟨⟨v5, rfl, hn5⟩, hb5⟩
          obtain ⟨z, y0, y1, y2, y3, sa, sn, sc, lo, hi, rfl⟩ := hn5.shapeI
          have HG5 := hidden (Gr.below (R := R) (w := w) (by (with_reducible (repeat (first | exact HK.out.gr | apply Gr.alloc | apply Gr.put | apply Gr.own | apply Gr.new | apply Gr.drewN | apply Gr.drew | omega)))) hb5)
          have HR5 := hidden (RdAt.later (R := R) (p := p) (k := q) (o := (o : Int)) (by (with_reducible (repeat (first | exact HK.out.rd | apply RdAt.alloc | apply RdAt.put | apply RdAt.set1 | apply RdAt.set1i | apply RdAt.set2 | apply RdAt.set2i | apply RdAt.other | apply RdAt.drewN | apply RdAt.drew | exact (Int.natCast_succ _).symm | omega)))) hb5)
          have HZ5 := hidden (ZeroAt.later (b := w.heap.size) (by (with_reducible (repeat (first | exact HK.out.zero | (apply Blk.newAt; simp; done) | apply Blk.alloc | apply Blk.put | apply Blk.putOther | apply Blk.other | apply Blk.drewN | apply Blk.drew | omega)))) hb5)
          have HN5 := hidden hn5
          obtain ⟨z0, z1, z2, z3, z4, z5, z6, z7⟩ := HZ5.out.cells
          obtain ⟨f0, f1, f2, f3, f4, f5, f6, f7⟩ := HZ5.out.thawed
          have hzl := HZ5.out.lt
          clear hb5 hn5
          go_wp2_with fail
          refine bodyPost_ret (results_node2 rfl _ _ w.heap.size (.int .i64 z) (.int .u64 y0) (.int .u64 y1) (.int .u64 y2) (.int .u64 y3) (.slice sa sn sc) (.int .i64 lo) (.int .i64 hi) rfl (by (with_reducible (repeat (first | exact HZ5.out | (apply Blk.newAt; simp; done) | apply Blk.alloc | apply Blk.put | apply Blk.putOther | apply Blk.other | apply Blk.drewN | apply Blk.drew | omega))))) rfl ?_
          rw [HF.out]
          exact ⟨by (with_reducible (repeat (first | exact HG5.out | apply Gr.alloc | apply Gr.put | apply Gr.own | apply Gr.new | apply Gr.drewN | apply Gr.drew | omega))), _, rfl, by refine NodeAt.up (m := w.heap.size + 1) ?_ (by omega); (with_reducible (repeat (first | exact HN5.out | apply NodeAt.alloc | apply NodeAt.putN | apply NodeAt.other | apply NodeAt.putO | apply NodeAt.otherO | apply NodeAt.drewN | apply NodeAt.drew | omega))), by rw [show k + (q - k) = q by omega]; (with_reducible (repeat (first | exact HR5.out | apply RdAt.alloc | apply RdAt.put | apply RdAt.set1 | apply RdAt.set1i | apply RdAt.set2 | apply RdAt.set2i | apply RdAt.other | apply RdAt.drewN | apply RdAt.drew | exact (Int.natCast_succ _).symm | omega)))⟩
      rw [show (c == 41) = false from by simpa using e41] at HM2
      have hen : ends (p.drop q) = false := by rw [hei]; simp [e124, e41]
      have HP1 := hidden (show piecesE g ((p.drop k).length + 1) (p.drop k) = ((match pieceE g (p.drop q) with | .er m c => (Rs.er m c : Rs (List Nd)) | .ok d m => ((piecesE g n ((p.drop q).drop m)).map (d :: ·)).far m).map (l ++ ·)).far (q - k) by
        rw [HP.out, piecesE, if_neg (by rw [hen]; decide)]
        cases pieceE g (p.drop q) <;> rfl)
      have ht := pieceE_tame HT.out (p.drop q) (drop_ne hlt)
      have HTM := hidden ht
      clear ht hen hei e124 e41
      go_wp2_with fail
      go_quiet ((first | (go_at_call_has 25 ((.int .u8 124 : Value)); exact Calls.quiet_of (HM1.out _)) | (go_at_call_has 25 ((.int .u8 41 : Value)); exact Calls.quiet_of (HM2.out _))))
      generalize hW2 : World.drewN _ nq = W2
      have HK2 := HK.out.drewN nq
      rw [hW2] at HK2
      clear hW2 hRl hZl r0 r1 r2 t0 t1 t2 z0 z1 z2 z3 z4 z5 z6 z7 f0 f1 f2 f3 f4 f5 f6 f7 HK
      have HK := hidden HK2
      clear HK2
      have hRl := HK.out.rd.lt
      have hZl := HK.out.zero.lt
      obtain ⟨r0, r1, r2⟩ := HK.out.rd.cells
      obtain ⟨t0, t1, t2⟩ := HK.out.rd.thawed
      obtain ⟨z0, z1, z2, z3, z4, z5, z6, z7⟩ := HK.out.zero.cells
      obtain ⟨f0, f1, f2, f3, f4, f5, f6, f7⟩ := HK.out.zero.thawed
      go_wp2_with fail
      refine (HX.out p q R _ hp hlt (by (with_reducible (repeat (first | exact HK.out.rd | apply RdAt.alloc | apply RdAt.put | apply RdAt.set1 | apply RdAt.set1i | apply RdAt.set2 | apply RdAt.set2i | apply RdAt.other | apply RdAt.drewN | apply RdAt.drew | exact (Int.natCast_succ _).symm | omega))))).mono ?_
      rintro e w1 ⟨hg1, ha1⟩
      have hs1 : W2.heap.size ≤ w1.heap.size := hg1.size
      have HG1 := hidden (Gr.tr (a := w) (by (with_reducible (repeat (first | exact HK.out.gr | apply Gr.alloc | apply Gr.put | apply Gr.own | apply Gr.new | apply Gr.drewN | apply Gr.drew | omega)))) hg1)
      have HZ1 := hidden (ZeroAt.gr (b := w.heap.size) (by (with_reducible (repeat (first | exact HK.out.zero | (apply Blk.newAt; simp; done) | apply Blk.alloc | apply Blk.put | apply Blk.putOther | apply Blk.other | apply Blk.drewN | apply Blk.drew | omega)))) hg1 (by omega))
      have HL1 := hidden (LN.gr HK.out.ln hg1 (by omega))
      have hzl1 := HZ1.out.lt
      clear hRl hZl r0 r1 r2 t0 t1 t2 z0 z1 z2 z3 z4 z5 z6 z7 f0 f1 f2 f3 f4 f5 f6 f7
      obtain ⟨z0, z1, z2, z3, z4, z5, z6, z7⟩ := HZ1.out.cells
      obtain ⟨f0, f1, f2, f3, f4, f5, f6, f7⟩ := HZ1.out.thawed
      cases hx : pieceE g (p.drop q) with
      | er m c2 =>
        rw [hx] at ha1
        obtain ⟨rfl, hc2, o', hr1⟩ := ha1
        have HR1 := hidden hr1
        have HA := hidden (show branchE g (p.drop k) = .er (q - k + m) c2 by unfold branchE; rw [HP1.out, hx]; rfl)
        have hcb : ((c2 : Int) != 0) = true := by rw [bne_iff_ne]; omega
        have HC := hidden hc2
        rw [zeroV_is]
        clear hx hr1 hg1 hc2
        go_wp2_with fail
        refine bodyPost_ret (results_node2 rfl _ _ w.heap.size (.int .i64 0) (.int .u64 0) (.int .u64 0) (.int .u64 0) (.int .u64 0) (.slice none 0 0) (.int .i64 0) (.int .i64 0) rfl (by (with_reducible (repeat (first | exact HZ1.out | (apply Blk.newAt; simp; done) | apply Blk.alloc | apply Blk.put | apply Blk.putOther | apply Blk.other | apply Blk.drewN | apply Blk.drew | omega))))) rfl ?_
        rw [HA.out]
        exact ⟨by (with_reducible (repeat (first | exact HG1.out | apply Gr.alloc | apply Gr.put | apply Gr.own | apply Gr.new | apply Gr.drewN | apply Gr.drew | omega))), rfl, HC.out, o', by rw [show k + (q - k + m) = q + m by omega]; (with_reducible (repeat (first | exact HR1.out | apply RdAt.alloc | apply RdAt.put | apply RdAt.set1 | apply RdAt.set1i | apply RdAt.set2 | apply RdAt.set2i | apply RdAt.other | apply RdAt.drewN | apply RdAt.drew | exact (Int.natCast_succ _).symm | omega)))⟩
      | ok x m =>
        rw [hx] at ha1
        obtain ⟨u, rfl, hn1, hr1⟩ := ha1
        obtain ⟨z, y0, y1, y2, y3, sa, sn, sc, lo, hi, rfl⟩ := hn1.shapeI
        have hmm := HTM.out
        rw [hx, List.length_drop] at hmm
        have hm1 : m ≤ p.length - q := hmm.1
        have hm2 : 1 ≤ m := hmm.2 x m rfl
        obtain ⟨q2, hq2⟩ : ∃ q2, q2 = q + m := ⟨_, rfl⟩
        rw [← hq2] at hr1
        have HR1 := hidden hr1
        have hown := HK.out.ln.lt
        have HN1 := hidden (show NodeAt w1 (fun b => w.heap.size + 1 ≤ b ∧ some b ≠ u4.ownBlock) (.agg #[.int .i64 z, .int .u64 y0, .int .u64 y1, .int .u64 y2, .int .u64 y3, .slice sa sn sc, .int .i64 lo, .int .i64 hi]) x from hn1.keep fun b hA _ => ⟨rfl, by have : W2.heap.size ≤ b := hA; have := HK.out.zero.lt; omega, fun e => by have h5 := (hown b e.symm).2; have : W2.heap.size ≤ b := hA; omega⟩)
        have HP2 := hidden (show piecesE g ((p.drop k).length + 1) (p.drop k) = ((piecesE g n (p.drop q2)).map ((l ++ [x]) ++ ·)).far (q2 - k) by
          rw [HP1.out, hx]
          simp only []
          rw [List.drop_drop, ← hq2, map_far, far_far, map_map, show q - k + m = q2 - k by omega]
          congr 2
          funext t
          simp)
        have hq2p : q2 ≤ p.length := by omega
        have hqq2 : q < q2 := by omega
        have hlen2 : l.length < 1048576 := by omega
        have hlen3 : (l ++ [x]).length ≤ q2 - k := by rw [List.length_append]; show l.length + 1 ≤ q2 - k; omega
        have hlt1 : w.heap.size + 1 ≤ w1.heap.size := by have := HK.out.zero.lt; omega
        clear hx hr1 hg1 hn1 hmm hown hm1 hm2 hq2
        go_wp2_with (at_builtin; go_must (refine wpList_append_node _ (by go_simp) (.tmp 36) (.tmp 38) rfl (w.heap.size + 1) _ u4 vs l x (.int .i64 z) (.int .u64 y0) (.int .u64 y1) (.int .u64 y2) (.int .u64 y3) (.slice sa sn sc) (.int .i64 lo) (.int .i64 hi) rfl rfl (by (with_reducible (repeat (first | exact HL1.out | apply LN.alloc | apply LN.put | apply LN.other | apply LN.drewN | apply LN.drew | omega)))) ((HN1.out.alloc _).alloc _) (eight_new _ _ _ _ _ _ _ _ _ _ _ (by simp)) hlen2 (by simp; omega) ?_; intro v9 w9 hln9 hg9))
        have hown9 := HL1.out.lt
        have HG9 := hidden (Gr.grown (R := R) (w := w) (by (with_reducible (repeat (first | exact HG1.out | apply Gr.alloc | apply Gr.put | apply Gr.own | apply Gr.new | apply Gr.drewN | apply Gr.drew | omega)))) hg9 (fun j hj => by have := (hown9 j hj).1; omega))
        have HR9 := hidden (show RdAt w9 R p q2 o from by
          refine RdAt.keep (w := _) (by (with_reducible (repeat (first | exact HR1.out | apply RdAt.alloc | apply RdAt.put | apply RdAt.set1 | apply RdAt.set1i | apply RdAt.set2 | apply RdAt.set2i | apply RdAt.other | apply RdAt.drewN | apply RdAt.drew | exact (Int.natCast_succ _).symm | omega)))) (hg9.block R (by have := HR1.out.lt; simp; omega) (fun e => by have := (hown9 R e.symm).1; omega)))
        have HZ9 := hidden (show ZeroAt w9 w.heap.size from by
          refine Blk.keep (w := _) (by (with_reducible (repeat (first | exact HZ1.out | (apply Blk.newAt; simp; done) | apply Blk.alloc | apply Blk.put | apply Blk.putOther | apply Blk.other | apply Blk.drewN | apply Blk.drew | omega)))) (hg9.block _ (by have := HZ1.out.lt; simp; omega) (fun e => by have := (hown9 _ e.symm).1; omega)))
        have HL9 := hidden hln9
        clear hln9 hg9 hown9
        go_wp2_with fail
        go_roundw
        case rel => exact ⟨q2, n, vs ++ [.agg #[.int .i64 z, .int .u64 y0, .int .u64 y1, .int .u64 y2, .int .u64 y3, .slice sa sn sc, .int .i64 lo, .int .i64 hi]], l ++ [x], hq2p, by omega, hlen3, ⟨HG9.out, HR9.out, HZ9.out, HL9.out⟩, by rw [List.length_drop]; omega, HP2.out⟩
        case measure => exact RdAt.less (p := p) (k := q) (k' := q2) (o := (o : Int)) (o' := (o : Int)) HR9.out HK0.out.rd hqq2 hq2p
    · have hli : ¬ (q : Int) < p.length := by omega
      have hld : decide ((q : Int) < p.length) = false := by simp; omega
      obtain ⟨n, rfl⟩ : ∃ m, n = m + 1 := ⟨n - 1, by omega⟩
      have HE := hidden (show piecesE g ((p.drop k).length + 1) (p.drop k) = .ok l (q - k) by
        rw [HP.out, piecesE, if_pos (by exact ends_end (by omega))]
        simp [Rs.map, Rs.far])
      have hlen0 : l.length = 0 ∨ l.length ≠ 0 := by omega
      cases hlen0 with
      | inl h0 =>
        obtain rfl : l = [] := List.eq_nil_of_length_eq_zero h0
        have hv := HK.out.ln.own.2
        have hv2 : u4 = .slice none 0 0 ∨ ∃ g cap, u4 = .slice (some ⟨g, 0, none⟩) 0 cap := by
          rcases hv with ⟨h, _⟩ | ⟨g, cap, cur, h, _⟩
          · exact Or.inl h
          · exact Or.inr ⟨g, cap, h⟩
        have HF := hidden (show branchE g (p.drop k) = .ok (plainN 1) (q - k) by unfold branchE; rw [HE.out]; rfl)
        clear hv
        rcases hv2 with rfl | ⟨gg, cap, rfl⟩
        all_goals
          go_wp2_with fail
          go_quiet ((first | (go_at_call_has 25 ((.int .u8 124 : Value)); exact Calls.quiet_of (HM1.out _)) | (go_at_call_has 25 ((.int .u8 41 : Value)); exact Calls.quiet_of (HM2.out _))))
          generalize hW2 : World.drewN _ nq = W2
          have HK2 := HK.out.drewN nq
          rw [hW2] at HK2
          clear hW2 hRl hZl r0 r1 r2 t0 t1 t2 z0 z1 z2 z3 z4 z5 z6 z7 f0 f1 f2 f3 f4 f5 f6 f7 HK
          have HK := hidden HK2
          clear HK2
          have hRl := HK.out.rd.lt
          have hZl := HK.out.zero.lt
          obtain ⟨r0, r1, r2⟩ := HK.out.rd.cells
          obtain ⟨t0, t1, t2⟩ := HK.out.rd.thawed
          obtain ⟨z0, z1, z2, z3, z4, z5, z6, z7⟩ := HK.out.zero.cells
          obtain ⟨f0, f1, f2, f3, f4, f5, f6, f7⟩ := HK.out.zero.thawed
          go_wp2_with fail
          refine bodyPost_ret (results_node2 rfl _ _ w.heap.size (.int .i64 1) (.int .u64 0) (.int .u64 0) (.int .u64 0) (.int .u64 0) (.slice none 0 0) (.int .i64 0) (.int .i64 0) rfl (by (with_reducible (repeat (first | exact HK.out.zero | (apply Blk.newAt; simp; done) | apply Blk.alloc | apply Blk.put | apply Blk.putOther | apply Blk.other | apply Blk.drewN | apply Blk.drew | omega))))) rfl ?_
          rw [HF.out]
          exact ⟨by (with_reducible (repeat (first | exact HK.out.gr | apply Gr.alloc | apply Gr.put | apply Gr.own | apply Gr.new | apply Gr.drewN | apply Gr.drew | omega))), _, rfl, plainN_lit _ _ 1 1 rfl, by rw [show k + (q - k) = q by omega]; (with_reducible (repeat (first | exact HK.out.rd | apply RdAt.alloc | apply RdAt.put | apply RdAt.set1 | apply RdAt.set1i | apply RdAt.set2 | apply RdAt.set2i | apply RdAt.other | apply RdAt.drewN | apply RdAt.drew | exact (Int.natCast_succ _).symm | omega)))⟩
      | inr h0 =>
        have hne : l ≠ [] := fun e => h0 (by rw [e]; rfl)
        have HF := hidden (show branchE g (p.drop k) = .ok (together 3 l) (q - k) by unfold branchE; rw [HE.out]; simp only [Rs.map]; unfold catOf; rw [if_neg hne])
        obtain ⟨ga, gc, hv⟩ : ∃ ga gc, u4 = .slice ga l.length gc := by
          rcases HK.out.ln.own.2 with ⟨h, h2⟩ | ⟨g, cap, cur, h, _⟩
          · exact absurd h2 h0
          · exact ⟨_, _, h⟩
        subst hv
        have h0i : ¬ (l.length : Int) = 0 := by omega
        have h0b : ((l.length : Int) == 0) = false := by rw [beq_eq_false_iff_ne]; exact h0i
        have HNE := hidden hne
        clear hne h0
        go_wp2_with fail
        go_quiet ((first | (go_at_call_has 25 ((.int .u8 124 : Value)); exact Calls.quiet_of (HM1.out _)) | (go_at_call_has 25 ((.int .u8 41 : Value)); exact Calls.quiet_of (HM2.out _))))
        generalize hW2 : World.drewN _ nq = W2
        have HK2 := HK.out.drewN nq
        rw [hW2] at HK2
        clear hW2 hRl hZl r0 r1 r2 t0 t1 t2 z0 z1 z2 z3 z4 z5 z6 z7 f0 f1 f2 f3 f4 f5 f6 f7 HK
        have HK := hidden HK2
        clear HK2
        have hRl := HK.out.rd.lt
        have hZl := HK.out.zero.lt
        obtain ⟨r0, r1, r2⟩ := HK.out.rd.cells
        obtain ⟨t0, t1, t2⟩ := HK.out.rd.thawed
        obtain ⟨z0, z1, z2, z3, z4, z5, z6, z7⟩ := HK.out.zero.cells
        obtain ⟨f0, f1, f2, f3, f4, f5, f6, f7⟩ := HK.out.zero.thawed
        go_wp2_with fail
        refine (together_any 3 _ l (w.heap.size + 1) _ (by exact (LN.kids (by (with_reducible (repeat (first | exact HK.out.ln | apply LN.alloc | apply LN.put | apply LN.other | apply LN.drewN | apply LN.drew | omega)))))) HNE.out (by omega)).mono ?_
        rintro e w5 ⟨⟨v5, rfl, hn5⟩, hb5⟩
        obtain ⟨z, y0, y1, y2, y3, sa, sn, sc, lo, hi, rfl⟩ := hn5.shapeI
        have HG5 := hidden (Gr.below (R := R) (w := w) (by (with_reducible (repeat (first | exact HK.out.gr | apply Gr.alloc | apply Gr.put | apply Gr.own | apply Gr.new | apply Gr.drewN | apply Gr.drew | omega)))) hb5)
        have HR5 := hidden (RdAt.later (R := R) (p := p) (k := q) (o := (o : Int)) (by (with_reducible (repeat (first | exact HK.out.rd | apply RdAt.alloc | apply RdAt.put | apply RdAt.set1 | apply RdAt.set1i | apply RdAt.set2 | apply RdAt.set2i | apply RdAt.other | apply RdAt.drewN | apply RdAt.drew | exact (Int.natCast_succ _).symm | omega)))) hb5)
        have HZ5 := hidden (ZeroAt.later (b := w.heap.size) (by (with_reducible (repeat (first | exact HK.out.zero | (apply Blk.newAt; simp; done) | apply Blk.alloc | apply Blk.put | apply Blk.putOther | apply Blk.other | apply Blk.drewN | apply Blk.drew | omega)))) hb5)
        have HN5 := hidden hn5
        obtain ⟨z0, z1, z2, z3, z4, z5, z6, z7⟩ := HZ5.out.cells
        obtain ⟨f0, f1, f2, f3, f4, f5, f6, f7⟩ := HZ5.out.thawed
        have hzl := HZ5.out.lt
        clear hb5 hn5
        go_wp2_with fail
        refine bodyPost_ret (results_node2 rfl _ _ w.heap.size (.int .i64 z) (.int .u64 y0) (.int .u64 y1) (.int .u64 y2) (.int .u64 y3) (.slice sa sn sc) (.int .i64 lo) (.int .i64 hi) rfl (by (with_reducible (repeat (first | exact HZ5.out | (apply Blk.newAt; simp; done) | apply Blk.alloc | apply Blk.put | apply Blk.putOther | apply Blk.other | apply Blk.drewN | apply Blk.drew | omega))))) rfl ?_
        rw [HF.out]
        exact ⟨by (with_reducible (repeat (first | exact HG5.out | apply Gr.alloc | apply Gr.put | apply Gr.own | apply Gr.new | apply Gr.drewN | apply Gr.drew | omega))), _, rfl, by refine NodeAt.up (m := w.heap.size + 1) ?_ (by omega); (with_reducible (repeat (first | exact HN5.out | apply NodeAt.alloc | apply NodeAt.putN | apply NodeAt.other | apply NodeAt.putO | apply NodeAt.otherO | apply NodeAt.drewN | apply NodeAt.drew | omega))), by rw [show k + (q - k) = q by omega]; (with_reducible (repeat (first | exact HR5.out | apply RdAt.alloc | apply RdAt.put | apply RdAt.set1 | apply RdAt.set1i | apply RdAt.set2 | apply RdAt.set2i | apply RdAt.other | apply RdAt.drewN | apply RdAt.drew | exact (Int.natCast_succ _).symm | omega)))⟩

end Go.Proofs.Ytjeloflfhofdlaa
