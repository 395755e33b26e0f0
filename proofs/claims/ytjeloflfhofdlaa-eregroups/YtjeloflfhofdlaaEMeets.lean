/-
  What the program's meets, setNode, othersOf and set answer: whether a byte comes next, nodes of a set, and a set read from its bracket on; conditions: the text's length, and that the reader's block holds it.
-/
import Derived.Test.YtjeloflfhofdlaaEBase
import Derived.WalkSmall
namespace Go.Proofs.Ytjeloflfhofdlaa
open Go.RowKit Go.Proofs.Ytjeloflfhofdlaa.Gl

theorem RdAt.drewN {w : World} {R : Nat} {p : Tx} {k : Nat} {o : Int} (h : RdAt w R p k o) (n : Nat) : RdAt (w.drewN n) R p k o := h
theorem Gr.drewN {R : Nat} {w W : World} (h : Gr R w W) (n : Nat) : Gr R w (W.drewN n) := ⟨h.os, h.tape, h.output, h.size, h.block⟩
theorem NodeAt.drewN {w : World} {A : Nat → Prop} {v : Value} {d : Nd} (h : NodeAt w A v d) (n : Nat) : NodeAt (w.drewN n) A v d := h.keep fun _ hA _ => ⟨rfl, hA⟩

/-- does a byte come next -/
def meetB (p : Tx) (k : Nat) (c : UInt8) : Bool := decide (k < p.length) && p.getD k 0 == c
set_option maxHeartbeats 2000000 in
theorem meets_any (p : Tx) (k R : Nat) (o : Int) (c : UInt8) (w : World) (_hp : p.length ≤ 1048576) (hr : RdAt w R p k o) :
    Calls Try.prog 25 #[.pointer (some ⟨R, 0, none⟩), .int .u8 c.toNat] w fun e w' => e = .returned (.bool (meetB p k c)) ∧ ∃ n, w' = w.drewN n := by
  obtain ⟨r0, r1, r2⟩ := hr.cells
  clear hr
  by_cases hlt : k < p.length
  · have hli : (k : Int) < p.length := by omega
    obtain ⟨d, hd⟩ : ∃ d, d = p.getD k 0 := ⟨_, rfl⟩
    have hb : ∀ h, (⟨p.toArray⟩ : ByteArray)[k]'h = d := fun h => by rw [byte_at, hd]
    have HM := hidden (show meetB p k c = (d == c) by unfold meetB; rw [← hd]; simp [hlt])
    clear hd
    by_cases he : d = c
    · subst he
      have hq : ((d.toNat : Int) == (d.toNat : Int)) = true := by simp
      go_enter Try.func25, Try.ntmps25
      go_wp2
      go_quiet (fail)
      go_wp2
      go_ret
      exact ⟨by rw [HM.out]; simp, _, rfl⟩
    · have hq : ((d.toNat : Int) == (c.toNat : Int)) = false := by
        rw [beq_eq_false_iff_ne]
        intro h
        exact he (UInt8.toNat_inj.1 (by exact_mod_cast h))
      go_enter Try.func25, Try.ntmps25
      go_wp2
      go_quiet (fail)
      go_wp2
      go_ret
      exact ⟨by rw [HM.out]; simp [he], _, rfl⟩
  · have hli : decide ((k : Int) < p.length) = false := by simp; omega
    have HM := hidden (show meetB p k c = false by unfold meetB; simp [hlt])
    go_enter Try.func25, Try.ntmps25
    go_wp2
    go_quiet (fail)
    go_wp2
    go_ret
    exact ⟨by rw [HM.out]; rfl, _, rfl⟩

set_option maxHeartbeats 2000000 in
theorem setNode_any (f : Bs) (w : World) :
    Calls Try.prog 43 #[setV f] w fun e w' => e = .returned (nodeV 2 f (.slice none 0 0) 0 0) ∧ Below w.heap.size w w' := by
  unfold setV
  go_enter Try.func43, Try.ntmps43
  go_wp2
  refine bodyPost_ret (v := nodeV 2 f (.slice none 0 0) 0 0) (by simp [results, Try.results43, go_sem, nodeV]) rfl ?_
  exact ⟨rfl, ((Below.refl _ w).alloc (Nat.le_refl _) _).alloc (by simp) _⟩

set_option maxHeartbeats 2000000 in
theorem othersOf_any (f : Bs) (w : World) :
    Calls Try.prog 44 #[setV f] w fun e w' => e = .returned (setV (othersB f)) ∧ Below w.heap.size w w' := by
  unfold setV
  go_enter Try.func44, Try.ntmps44
  go_wp2_with fail
  refine (others_any f _).mono ?_
  rintro e w1 ⟨rfl, hb1⟩
  have HB1 := hidden (show Below w.heap.size w w1 from (((Below.refl _ w).alloc (Nat.le_refl _) _).alloc (by simp) _).trans (hb1.mono (by simp; omega)))
  have hZ1 : Arr w1 (w.heap.size + 1) 0 0 0 0 := Arr.later (by have := Arr.new (w.alloc (.cells #[.int .u64 (word f 0), .int .u64 (word f 1), .int .u64 (word f 2), .int .u64 (word f 3)] 59)) 0 0 0 0; rw [World.size_alloc] at this; exact this) hb1
  clear hb1
  go_wp2_with fail
  refine (without_any _ 10 _).mono ?_
  rintro e w2 ⟨rfl, hb2⟩
  have HB2 := hidden (HB1.out.trans (hb2.mono HB1.out.size))
  obtain ⟨c0, c1, c2, c3⟩ := (hZ1.later hb2).cells
  obtain ⟨d0, d1, d2, d3⟩ := (hZ1.later hb2).thawed
  clear hZ1 hb2
  unfold setV
  go_wp2
  refine bodyPost_ret (v := setV (othersB f)) (by simp [results, Try.results44, go_sem, c0, c1, c2, c3, setV, othersB]) rfl ?_
  exact ⟨rfl, (((HB2.out.setCell (Nat.le_succ _) _).setCell (Nat.le_succ _) _).setCell (Nat.le_succ _) _).setCell (Nat.le_succ _) _⟩

/-- a set as an atom -/
def setAtom (l : Tx) : Rs Nd :=
  match setE (l.drop 1) with
  | none => .er 0 2
  | some r => .ok (setN r.1) (1 + r.2)
abbrev ZeroAt (w : World) (b : Nat) : Prop := Blk w b (.int .i64 0) (.int .u64 0) (.int .u64 0) (.int .u64 0) (.int .u64 0) (.slice none 0 0) (.int .i64 0) (.int .i64 0)
theorem ZeroAt.later {w w' : World} {b : Nat} (h : ZeroAt w b) (hb : Below w.heap.size w w') : ZeroAt w' b := Blk.later h hb
theorem ZeroAt.gr {w w' : World} {R b : Nat} (h : ZeroAt w b) (hg : Gr R w w') (hR : b ≠ R) : ZeroAt w' b := Blk.gr h hg hR
theorem zeroV_is : zeroV = .agg #[.int .i64 0, .int .u64 0, .int .u64 0, .int .u64 0, .int .u64 0, .slice none 0 0, .int .i64 0, .int .i64 0] := rfl
theorem setN_at (w : World) (A : Nat → Prop) (f : Bs) : NodeAt w A (nodeV 2 f (.slice none 0 0) 0 0) (setN f) := (KidsAt.nil w A).shut 2 f 0 0
theorem plainN_at (w : World) (A : Nat → Prop) (k : Int) : NodeAt w A (nodeV k none_ (.slice none 0 0) 0 0) (plainN k) := (KidsAt.nil w A).shut k none_ 0 0
theorem nodeV_plain (k : Int) : nodeV k none_ (.slice none 0 0) 0 0 = .agg #[.int .i64 k, .int .u64 0, .int .u64 0, .int .u64 0, .int .u64 0, .slice none 0 0, .int .i64 0, .int .i64 0] := by
  unfold nodeV
  rw [show word none_ 0 = 0 from word_none 0, show word none_ 1 = 0 from word_none 1, show word none_ 2 = 0 from word_none 2, show word none_ 3 = 0 from word_none 3]
  rfl
theorem plainN_lit (w : World) (A : Nat → Prop) (k : Int) (z : Int) (hz : z = k) : NodeAt w A (.agg #[.int .i64 z, .int .u64 0, .int .u64 0, .int .u64 0, .int .u64 0, .slice none 0 0, .int .i64 0, .int .i64 0]) (plainN k) := by
  rw [hz, ← nodeV_plain]; exact plainN_at w A k
/-- the reading of a set, by what Read says -/
theorem setE_of (p : Tx) (k : Nat) (q : Nat) (hq : q = k + 1 + negN (p.drop (k + 1))) (hk : k < p.length) :
    setE (p.drop (k + 1)) = (setGo eOne (p.length + 1) true (p.drop q) none_).map fun r => (if negE (p.drop (k + 1)) = true then othersB r.1 else r.1, negN (p.drop (k + 1)) + r.2) := by
  have hn := negN_le (p.drop (k + 1))
  rw [List.length_drop] at hn
  unfold setE
  rw [List.drop_drop, ← hq, setGo_fuel false _ (p.length + 1) true (p.drop q) none_ (by rw [List.length_drop, List.length_drop]; omega) (by rw [List.length_drop]; omega)]
  rfl

end Go.Proofs.Ytjeloflfhofdlaa
