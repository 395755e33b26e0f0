/-
  The laws' own examples hold: alive returns true; no conditions.
-/
import Derived.Test.YtjeloflfhofdlaaETop
namespace Go.Proofs.Ytjeloflfhofdlaa
open Go.RowKit Go.Proofs.Ytjeloflfhofdlaa.Gl

theorem top_nil : topE [] = .ok (plainN 1) 0 := by kernel_rfl
def fAC : Bs := both none_ (itemSet false [97, 45, 99, 93, 123, 50, 125])
theorem top_ac : topE [91, 97, 45, 99, 93, 123, 50, 125] = .ok (timesN (setN fAC) 2 2) 8 := by kernel_rfl
theorem fAC_has : fAC 98 = true := by decide +kernel
theorem right_ac : rightN (timesN (setN fAC) 2 2) = true := by kernel_rfl
theorem size_ac : sizeN (timesN (setN fAC) 2 2) = 3 := by kernel_rfl

/-- a leaf's value -/
theorem NodeAt.leaf {w : World} {A : Nat → Prop} {v : Value} {k : Int} {f : Bs} {lo hi : Int} (h : NodeAt w A v (.mk k f [] lo hi)) : ∃ a cap, v = nodeV k f (.slice a 0 cap) lo hi := by
  obtain ⟨kv, rfl, a, cap, vs, rfl, _⟩ := h.open
  exact ⟨a, cap, rfl⟩
/-- the value of a node with one kid -/
theorem NodeAt.single {w : World} {A : Nat → Prop} {v : Value} {k : Int} {f : Bs} {d : Nd} {lo hi : Int} (h : NodeAt w A v (.mk k f [d] lo hi)) : ∃ b o cap u, v = nodeV k f (.slice (some ⟨b, o, none⟩) 1 cap) lo hi ∧ NodeCells w b o u ∧ NodeAt w A u d := by
  obtain ⟨kv, rfl, a, cap, vs, rfl, hn, hcap, hc, hk⟩ := h.open
  obtain ⟨b, o, rfl, hA, hce⟩ := hc (by simp)
  obtain ⟨u, rfl⟩ : ∃ u, vs = [u] := List.length_eq_one_iff.1 hn
  exact ⟨b, o, cap, u, rfl, hce 0 u rfl, hk 0 u d rfl rfl⟩

set_option maxRecDepth 3000 in
set_option maxHeartbeats 8000000 in
theorem alive_any (w : World) : Calls Try.prog 8 #[] w fun e w' => e = .returned (.bool true) ∧ Below w.heap.size w w' := by
  have HB0 := hidden (Below.refl w.heap.size w)
  go_enter Try.func8, Try.ntmps8
  go_wp2_with fail
  refine (parse_any [] _ (by simp)).mono ?_
  rintro e w1 ⟨hb1, ha1⟩
  rw [top_nil] at ha1
  obtain ⟨v1, rfl, hn1, _⟩ := ha1
  obtain ⟨sa1, sc1, rfl⟩ := NodeAt.leaf (show NodeAt w1 _ v1 (.mk 1 none_ [] 0 0) from hn1)
  rw [nodeV, show word none_ 0 = 0 from word_none 0, show word none_ 1 = 0 from word_none 1, show word none_ 2 = 0 from word_none 2, show word none_ 3 = 0 from word_none 3]
  have HB1 := hidden hb1
  have HC1 := hidden (Blk.new w1 (.int .i64 1) (.int .u64 (0 : Nat)) (.int .u64 (0 : Nat)) (.int .u64 (0 : Nat)) (.int .u64 (0 : Nat)) (.slice sa1 0 sc1) (.int .i64 0) (.int .i64 0))
  clear hb1 hn1
  go_wp2_with fail
  refine (parse_any [91, 97, 45, 99, 93, 123, 50, 125] _ (by simp)).mono ?_
  rintro e w2 ⟨hb2, ha2⟩
  rw [top_ac] at ha2
  obtain ⟨v2, rfl, hn2, hcnt2⟩ := ha2
  have HN2 := hidden hn2
  obtain ⟨b, o, cap, u, rfl, hnc, hk⟩ := NodeAt.single (show NodeAt w2 _ v2 (.mk 5 none_ [setN fAC] 2 2) from hn2)
  have hbl := hnc.lt
  obtain ⟨c0, c1, c2, c3, c4, c5, c6, c7, rfl, q0, q1, q2, q3, q4, q5, q6, q7⟩ := hnc
  obtain ⟨ka, kc, hku⟩ := NodeAt.leaf (show NodeAt w2 _ _ (.mk 2 fAC [] 0 0) from hk)
  unfold nodeV at hku
  injection hku with hku
  simp at hku
  obtain ⟨rfl, rfl, rfl, rfl, rfl, rfl, rfl, rfl⟩ := hku
  have HK := hidden hk
  have HB2 := hidden (show Below w.heap.size w w2 from (by (with_reducible (repeat (first | exact HB1.out | apply bel_alloc | apply bel_put | apply bel_set | apply Below.drew | apply below_drewN | omega))) : Below w.heap.size w _).trans (hb2.mono (by have := HB1.out.size; simp; omega)))
  have HC2 := hidden (Blk.later HC1.out hb2)
  obtain ⟨a0, a1, a2, a3, a4, a5, a6, a7⟩ := HC2.out.cells
  have hal := HC2.out.lt
  unfold nodeV at HN2 ⊢
  clear hb2 hn2 hk
  go_wp2_with (go_at_call 10; refine (num_any _ _).mono ?_; rintro e w' ⟨rfl, rfl⟩)
  refine (hasE_any (setN fAC) _ 98 _ _ (by (with_reducible (repeat (first | exact HK.out | apply NodeAt.alloc | apply NodeAt.putN | apply NodeAt.other | apply NodeAt.putO | apply NodeAt.otherO | apply NodeAt.drewN | apply NodeAt.drew | omega))))).mono ?_
  rintro e w3 ⟨rfl, hb3⟩
  rw [show hasN (setN fAC) (UInt8.toNat 98) = true from (show (true && fAC 98) = true by rw [fAC_has]; rfl)]
  have HB3 := hidden (show Below w.heap.size w w3 from (by (with_reducible (repeat (first | exact HB2.out | apply bel_alloc | apply bel_put | apply bel_set | apply Below.drew | apply below_drewN | omega))) : Below w.heap.size w _).trans (hb3.mono (by have := HB2.out.size; simp; omega)))
  have HC3 := hidden (Blk.later (Blk.new w2 (.int .i64 5) (.int .u64 (word none_ 0)) (.int .u64 (word none_ 1)) (.int .u64 (word none_ 2)) (.int .u64 (word none_ 3)) (.slice (some ⟨b, o, none⟩) 1 cap) (.int .i64 2) (.int .i64 2)) hb3)
  have HN3 := hidden (NodeAt.later (A := _) (d := timesN (setN fAC) 2 2) (by (with_reducible (repeat (first | exact HN2.out | apply NodeAt.alloc | apply NodeAt.putN | apply NodeAt.other | apply NodeAt.putO | apply NodeAt.otherO | apply NodeAt.drewN | apply NodeAt.drew | omega)))) hb3)
  obtain ⟨x0, x1, x2, x3, x4, x5, x6, x7⟩ := HC3.out.cells
  have hxl := HC3.out.lt
  clear hb3
  go_wp2_with fail
  refine (right_any _ _ _ _ HN3.out (by omega)).mono ?_
  rintro e w4 ⟨rfl, hb4⟩
  rw [right_ac]
  have HB4 := hidden (HB3.out.trans (hb4.mono HB3.out.size))
  have HC4 := hidden (Blk.later HC3.out hb4)
  have HN4 := hidden (NodeAt.later HN3.out hb4)
  clear x0 x1 x2 x3 x4 x5 x6 x7 hb4
  obtain ⟨x0, x1, x2, x3, x4, x5, x6, x7⟩ := HC4.out.cells
  go_wp2_with fail
  refine (size_any _ _ _ _ HN4.out (by omega)).mono ?_
  rintro e w5 ⟨rfl, hb5⟩
  rw [size_ac]
  have HB5 := hidden (HB4.out.trans (hb5.mono HB4.out.size))
  clear hb5
  go_wp2
  go_ret
  exact ⟨rfl, HB5.out⟩

end Go.Proofs.Ytjeloflfhofdlaa
