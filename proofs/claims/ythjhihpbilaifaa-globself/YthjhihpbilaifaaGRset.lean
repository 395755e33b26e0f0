/-
  What the program's readSet answers at any place of a pattern: the set that begins there, and where it ends; condition: the pattern's length.
-/
import Derived.Test.YthjhihpbilaifaaSRead
import Derived.Test.YthjhihpbilaifaaGPlain
namespace Go.Proofs.Ythjhihpbilaifaa
open Go.RowKit Go.Proofs.Ythjhihpbilaifaa.Gl

theorem bel_alloc {a w : World} (h : Below a.heap.size a w) (o : Obj) : Below a.heap.size a (w.alloc o) := h.alloc h.size o
theorem bel_set {a w : World} (h : Below a.heap.size a w) {b i : Nat} {u : Value} (hb : a.heap.size ≤ b) : Below a.heap.size a (w.setCell ⟨b, i, none⟩ u) := h.setCell (p := ⟨b, i, none⟩) hb u
theorem results_set3 {fn : Func} {t u v : Tmp} (h : fn.results = #[.cell t 35, .tmp u, .tmp v]) (tmps : Array Value) (w : World) (b : Nat) (x0 x1 x2 x3 : Nat) (hp : tmps.getD t undef = .pointer (some ⟨b, 0, none⟩)) (hb : Arr w b x0 x1 x2 x3) :
    (results fn tmps).run Try.prog w = .ok (.tuple #[.agg #[.int .u64 x0, .int .u64 x1, .int .u64 x2, .int .u64 x3], tmps.getD u undef, tmps.getD v undef]) w := by
  obtain ⟨q0, q1, q2, q3⟩ := hb.cells
  rw [Array.getD_eq_getD_getElem?] at hp
  simp [results, h, hp, go_sem, q0, q1, q2, q3]
theorem Arr.put {W : World} {b x0 x1 x2 x3 : Nat} (h : Arr W b x0 x1 x2 x3) (y0 y1 y2 y3 : Nat) : Arr ((((W.setCell ⟨b, 0, none⟩ (.int .u64 y0)).setCell ⟨b, 1, none⟩ (.int .u64 y1)).setCell ⟨b, 2, none⟩ (.int .u64 y2)).setCell ⟨b, 3, none⟩ (.int .u64 y3)) b y0 y1 y2 y3 := (((h.set0 y0).set1 y1).set2 y2).set3 y3
theorem readByte_any (p : Tx) (at_ : Nat) (w : World) (hp : p.length ≤ 1048576) (ha : at_ < p.length) :
    Calls Try.prog 20 #[S p, .int .i64 at_] w fun e w' => e = .returned (.tuple #[.int .u8 (byteVal true (p.drop at_)).toNat, .int .i64 (at_ + byteLen true (p.drop at_) : Nat)]) ∧ w' = w := one_any p at_ w hp ha
theorem clean_others (f : Bs) : butB (notB f) 47 = clean f true := by
  funext c
  unfold butB notB clean
  cases f c <;> rfl
theorem clean_self (f : Bs) : butB f 47 = clean f false := by
  funext c
  unfold butB clean
  cases f c <;> rfl
theorem setOf_is (p : Tx) (at_ q : Nat) (hq : q = at_ + negLen (p.drop at_)) (hqp : q ≤ p.length) : setOf (p.drop at_) = (setGo eOne (p.length + 1) true (p.drop q) none_).map fun r => (clean r.1 (neg (p.drop at_)), r.2 + negLen (p.drop at_)) := by
  unfold setOf
  rw [List.drop_drop, ← hq, setGo_fuel true _ (p.length + 1) true (p.drop q) none_ (by rw [List.length_drop, List.length_drop]; omega) (by rw [List.length_drop]; omega)]
  rfl

set_option maxHeartbeats 8000000 in
theorem readSet_any (p : Tx) (at_ : Nat) (w : World) (hp : p.length ≤ 1048576) (ha : at_ ≤ p.length) :
    Calls Try.prog 19 #[S p, .int .i64 at_] w fun e w' => e = .returned (setAns at_ (setOf (p.drop at_))) ∧ Below w.heap.size w w' := by
  have hd : (p.drop at_).length = p.length - at_ := List.length_drop
  have HA0 := hidden (Arr.new w 0 0 0 0)
  have HB0 := hidden (Below.refl w.heap.size w)
  obtain ⟨c, hc⟩ : ∃ c, c = p.getD at_ 0 := ⟨_, rfl⟩
  have hb : ∀ h, (⟨p.toArray⟩ : ByteArray)[at_]'h = c := fun h => by rw [byte_at, hc]
  have HC := hidden (show (p.drop at_).getD 0 0 = c by rw [drop_getD, hc]; rfl)
  have HNEG := hidden (show neg (p.drop at_) = (decide (at_ < p.length) && (c == 33 || c == 94)) by
    unfold neg
    rw [HC.out, hd]
    congr 1
    rw [decide_eq_decide]
    omega)
  have HOF := hidden (setOf_is p at_)
  clear hc hd
  unfold S
  by_cases h1 : at_ < p.length
  · have h1i : (at_ : Int) < p.length := by omega
    by_cases e33 : c = 33
    · subst e33
      have HN := hidden (show neg (p.drop at_) = true ∧ negLen (p.drop at_) = 1 by
        have : neg (p.drop at_) = true := by rw [HNEG.out]; simp [h1]
        exact ⟨this, by unfold negLen; rw [if_pos this]⟩)
      have HOF2 := hidden (HOF.out (at_ + 1) (by rw [HN.out.2]) (by omega))
      cases hs : setGo eOne (p.length + 1) true (p.drop (at_ + 1)) none_ with
      | none =>
        have HR := hidden (show setAns at_ (setOf (p.drop at_)) = .tuple #[setV none_, .int .i64 0, .bool false] by rw [HOF2.out, hs]; rfl)
        have HSR := hidden (show ∀ W, Calls Try.prog 25 #[.string ⟨p.toArray⟩, .int .i64 ((at_ : Int) + 1), .func (.func 20) #[] #[]] W fun e w' => e = .returned (.tuple #[setV none_, .int .i64 0, .bool false]) ∧ Below W.heap.size W w' from fun W => by have h5 := sread_any p (at_ + 1) W hp (by omega); rw [hs] at h5; exact h5)
        clear hs
        go_enter Try.func19, Try.ntmps19
        go_wp2_with fail
        refine (HSR.out _).mono ?_
        rintro e w1 ⟨rfl, hb1⟩
        have HB1 := hidden (show Below w.heap.size w w1 from (by (with_reducible (repeat (first | exact HB0.out | apply bel_alloc | apply bel_put | apply bel_set | apply Below.drew | apply below_drewN | omega))) : Below w.heap.size w _).trans (hb1.mono (by simp)))
        have hA1 : Arr w1 w.heap.size 0 0 0 0 := Arr.later HA0.out hb1
        obtain ⟨c0, c1, c2, c3⟩ := hA1.cells
        obtain ⟨d0, d1, d2, d3⟩ := hA1.thawed
        have hal := hA1.lt
        rw [set_none]
        clear hb1
        go_wp2_with fail
        refine bodyPost_ret (results_set3 rfl _ _ w.heap.size 0 0 0 0 rfl (by first | exact (hA1.put 0 0 0 0).alloc _ | exact hA1.put 0 0 0 0)) rfl ?_
        exact ⟨by rw [HR.out, set_none]; rfl, by (with_reducible (repeat (first | exact HB1.out | apply bel_alloc | apply bel_put | apply bel_set | apply Below.drew | apply below_drewN | omega)))⟩
      | some r =>
        obtain ⟨f, m⟩ := r
        have hml := setGo_len true _ _ _ _ _ (show setGo true (p.length + 1) true (p.drop (at_ + 1)) none_ = some (f, m) from hs)
        rw [List.length_drop] at hml
        have hm2 : m ≤ p.length - (at_ + 1) := hml.2
        obtain ⟨k2, hk2⟩ : ∃ k2, k2 = at_ + 1 + m := ⟨_, rfl⟩
        have HR := hidden (show setAns at_ (setOf (p.drop at_)) = .tuple #[setV (clean f true), .int .i64 k2, .bool true] by
          rw [HOF2.out, hs]
          show Value.tuple #[setV (clean f (neg (p.drop at_))), .int .i64 (at_ + (m + negLen (p.drop at_)) : Nat), .bool true] = _
          rw [HN.out.1, HN.out.2, show at_ + (m + 1) = k2 by omega])
        have HSR := hidden (show ∀ W, Calls Try.prog 25 #[.string ⟨p.toArray⟩, .int .i64 ((at_ : Int) + 1), .func (.func 20) #[] #[]] W fun e w' => e = .returned (.tuple #[setV f, .int .i64 k2, .bool true]) ∧ Below W.heap.size W w' from fun W => by have h5 := sread_any p (at_ + 1) W hp (by omega); rw [hs] at h5; rw [hk2]; exact h5)
        have hk2p : k2 ≤ p.length := by omega
        clear hs hml hm2 hk2
        go_enter Try.func19, Try.ntmps19
        go_wp2_with fail
        refine (HSR.out _).mono ?_
        rintro e w1 ⟨rfl, hb1⟩
        have hs1 : w.heap.size + 1 ≤ w1.heap.size := by have := hb1.size; simpa using this
        have HB1 := hidden (show Below w.heap.size w w1 from (by (with_reducible (repeat (first | exact HB0.out | apply bel_alloc | apply bel_put | apply bel_set | apply Below.drew | apply below_drewN | omega))) : Below w.heap.size w _).trans (hb1.mono (by simp)))
        have HZ1 := hidden (show Arr w1 w.heap.size 0 0 0 0 from Arr.later HA0.out hb1)
        have HF1 := hidden (Arr.new w1 (word f 0) (word f 1) (word f 2) (word f 3))
        clear hb1
        unfold setV
        go_wp2_with fail
        rw [show Value.agg #[.int .u64 (word f 0), .int .u64 (word f 1), .int .u64 (word f 2), .int .u64 (word f 3)] = setV f from rfl]
        refine (others_any f _).mono ?_
        rintro e w2 ⟨rfl, hb2⟩
        have HB2 := hidden (show Below w.heap.size w w2 from (by (with_reducible (repeat (first | exact HB1.out | apply bel_alloc | apply bel_put | apply bel_set | apply Below.drew | apply below_drewN | omega))) : Below w.heap.size w _).trans (hb2.mono (by have := HB1.out.size; simp; omega)))
        have HZ2 := hidden (show Arr w2 w.heap.size 0 0 0 0 from Arr.later (HZ1.out.alloc _) hb2)
        have HF2 := hidden (show Arr w2 w1.heap.size (word f 0) (word f 1) (word f 2) (word f 3) from Arr.later HF1.out hb2)
        obtain ⟨a0, a1, a2, a3⟩ := HF2.out.cells
        obtain ⟨t0, t1, t2, t3⟩ := HF2.out.thawed
        have hfl := HF2.out.lt
        clear hb2
        unfold setV
        go_wp2_with fail
        rw [show Value.agg #[.int .u64 (word (notB f) 0), .int .u64 (word (notB f) 1), .int .u64 (word (notB f) 2), .int .u64 (word (notB f) 3)] = setV (notB f) from rfl]
        refine (without_any (notB f) 47 _).mono ?_
        rintro e w3 ⟨rfl, hb3⟩
        rw [show butB (notB f) (UInt8.toNat 47) = clean f true from clean_others f]
        have HB3 := hidden (show Below w.heap.size w w3 from (by (with_reducible (repeat (first | exact HB2.out | apply bel_alloc | apply bel_put | apply bel_set | apply Below.drew | apply below_drewN | omega))) : Below w.heap.size w _).trans (hb3.mono (by have := HB2.out.size; simp; omega)))
        have hZ3 : Arr w3 w.heap.size 0 0 0 0 := Arr.later ((((HZ2.out.other (by omega)).other (by omega)).other (by omega)).other (by omega)) hb3
        obtain ⟨c0, c1, c2, c3⟩ := hZ3.cells
        obtain ⟨d0, d1, d2, d3⟩ := hZ3.thawed
        have hzl := hZ3.lt
        have HZ3 := hidden hZ3
        clear hZ3 hb3
        unfold setV
        go_wp2_with fail
        refine bodyPost_ret (results_set3 rfl _ _ w.heap.size (word (clean f true) 0) (word (clean f true) 1) (word (clean f true) 2) (word (clean f true) 3) rfl (by first | exact HZ3.out.put _ _ _ _ | exact (HZ3.out.put _ _ _ _).alloc _)) rfl ?_
        exact ⟨by rw [HR.out]; rfl, by (with_reducible (repeat (first | exact HB3.out | apply bel_alloc | apply bel_put | apply bel_set | apply Below.drew | apply below_drewN | omega)))⟩
    have n33 := byte_ne (n := 33) e33
    have b33 : ((c.toNat : Int) == 33) = false := by rw [beq_eq_false_iff_ne]; exact n33
    by_cases e94 : c = 94
    · subst e94
      have HN := hidden (show neg (p.drop at_) = true ∧ negLen (p.drop at_) = 1 by
        have : neg (p.drop at_) = true := by rw [HNEG.out]; simp [h1]
        exact ⟨this, by unfold negLen; rw [if_pos this]⟩)
      clear e33
      have HOF2 := hidden (HOF.out (at_ + 1) (by rw [HN.out.2]) (by omega))
      cases hs : setGo eOne (p.length + 1) true (p.drop (at_ + 1)) none_ with
      | none =>
        have HR := hidden (show setAns at_ (setOf (p.drop at_)) = .tuple #[setV none_, .int .i64 0, .bool false] by rw [HOF2.out, hs]; rfl)
        have HSR := hidden (show ∀ W, Calls Try.prog 25 #[.string ⟨p.toArray⟩, .int .i64 ((at_ : Int) + 1), .func (.func 20) #[] #[]] W fun e w' => e = .returned (.tuple #[setV none_, .int .i64 0, .bool false]) ∧ Below W.heap.size W w' from fun W => by have h5 := sread_any p (at_ + 1) W hp (by omega); rw [hs] at h5; exact h5)
        clear hs
        go_enter Try.func19, Try.ntmps19
        go_wp2_with fail
        refine (HSR.out _).mono ?_
        rintro e w1 ⟨rfl, hb1⟩
        have HB1 := hidden (show Below w.heap.size w w1 from (by (with_reducible (repeat (first | exact HB0.out | apply bel_alloc | apply bel_put | apply bel_set | apply Below.drew | apply below_drewN | omega))) : Below w.heap.size w _).trans (hb1.mono (by simp)))
        have hA1 : Arr w1 w.heap.size 0 0 0 0 := Arr.later HA0.out hb1
        obtain ⟨c0, c1, c2, c3⟩ := hA1.cells
        obtain ⟨d0, d1, d2, d3⟩ := hA1.thawed
        have hal := hA1.lt
        rw [set_none]
        clear hb1
        go_wp2_with fail
        refine bodyPost_ret (results_set3 rfl _ _ w.heap.size 0 0 0 0 rfl (by first | exact (hA1.put 0 0 0 0).alloc _ | exact hA1.put 0 0 0 0)) rfl ?_
        exact ⟨by rw [HR.out, set_none]; rfl, by (with_reducible (repeat (first | exact HB1.out | apply bel_alloc | apply bel_put | apply bel_set | apply Below.drew | apply below_drewN | omega)))⟩
      | some r =>
        obtain ⟨f, m⟩ := r
        have hml := setGo_len true _ _ _ _ _ (show setGo true (p.length + 1) true (p.drop (at_ + 1)) none_ = some (f, m) from hs)
        rw [List.length_drop] at hml
        have hm2 : m ≤ p.length - (at_ + 1) := hml.2
        obtain ⟨k2, hk2⟩ : ∃ k2, k2 = at_ + 1 + m := ⟨_, rfl⟩
        have HR := hidden (show setAns at_ (setOf (p.drop at_)) = .tuple #[setV (clean f true), .int .i64 k2, .bool true] by
          rw [HOF2.out, hs]
          show Value.tuple #[setV (clean f (neg (p.drop at_))), .int .i64 (at_ + (m + negLen (p.drop at_)) : Nat), .bool true] = _
          rw [HN.out.1, HN.out.2, show at_ + (m + 1) = k2 by omega])
        have HSR := hidden (show ∀ W, Calls Try.prog 25 #[.string ⟨p.toArray⟩, .int .i64 ((at_ : Int) + 1), .func (.func 20) #[] #[]] W fun e w' => e = .returned (.tuple #[setV f, .int .i64 k2, .bool true]) ∧ Below W.heap.size W w' from fun W => by have h5 := sread_any p (at_ + 1) W hp (by omega); rw [hs] at h5; rw [hk2]; exact h5)
        have hk2p : k2 ≤ p.length := by omega
        clear hs hml hm2 hk2
        go_enter Try.func19, Try.ntmps19
        go_wp2_with fail
        refine (HSR.out _).mono ?_
        rintro e w1 ⟨rfl, hb1⟩
        have hs1 : w.heap.size + 1 ≤ w1.heap.size := by have := hb1.size; simpa using this
        have HB1 := hidden (show Below w.heap.size w w1 from (by (with_reducible (repeat (first | exact HB0.out | apply bel_alloc | apply bel_put | apply bel_set | apply Below.drew | apply below_drewN | omega))) : Below w.heap.size w _).trans (hb1.mono (by simp)))
        have HZ1 := hidden (show Arr w1 w.heap.size 0 0 0 0 from Arr.later HA0.out hb1)
        have HF1 := hidden (Arr.new w1 (word f 0) (word f 1) (word f 2) (word f 3))
        clear hb1
        unfold setV
        go_wp2_with fail
        rw [show Value.agg #[.int .u64 (word f 0), .int .u64 (word f 1), .int .u64 (word f 2), .int .u64 (word f 3)] = setV f from rfl]
        refine (others_any f _).mono ?_
        rintro e w2 ⟨rfl, hb2⟩
        have HB2 := hidden (show Below w.heap.size w w2 from (by (with_reducible (repeat (first | exact HB1.out | apply bel_alloc | apply bel_put | apply bel_set | apply Below.drew | apply below_drewN | omega))) : Below w.heap.size w _).trans (hb2.mono (by have := HB1.out.size; simp; omega)))
        have HZ2 := hidden (show Arr w2 w.heap.size 0 0 0 0 from Arr.later (HZ1.out.alloc _) hb2)
        have HF2 := hidden (show Arr w2 w1.heap.size (word f 0) (word f 1) (word f 2) (word f 3) from Arr.later HF1.out hb2)
        obtain ⟨a0, a1, a2, a3⟩ := HF2.out.cells
        obtain ⟨t0, t1, t2, t3⟩ := HF2.out.thawed
        have hfl := HF2.out.lt
        clear hb2
        unfold setV
        go_wp2_with fail
        rw [show Value.agg #[.int .u64 (word (notB f) 0), .int .u64 (word (notB f) 1), .int .u64 (word (notB f) 2), .int .u64 (word (notB f) 3)] = setV (notB f) from rfl]
        refine (without_any (notB f) 47 _).mono ?_
        rintro e w3 ⟨rfl, hb3⟩
        rw [show butB (notB f) (UInt8.toNat 47) = clean f true from clean_others f]
        have HB3 := hidden (show Below w.heap.size w w3 from (by (with_reducible (repeat (first | exact HB2.out | apply bel_alloc | apply bel_put | apply bel_set | apply Below.drew | apply below_drewN | omega))) : Below w.heap.size w _).trans (hb3.mono (by have := HB2.out.size; simp; omega)))
        have hZ3 : Arr w3 w.heap.size 0 0 0 0 := Arr.later ((((HZ2.out.other (by omega)).other (by omega)).other (by omega)).other (by omega)) hb3
        obtain ⟨c0, c1, c2, c3⟩ := hZ3.cells
        obtain ⟨d0, d1, d2, d3⟩ := hZ3.thawed
        have hzl := hZ3.lt
        have HZ3 := hidden hZ3
        clear hZ3 hb3
        unfold setV
        go_wp2_with fail
        refine bodyPost_ret (results_set3 rfl _ _ w.heap.size (word (clean f true) 0) (word (clean f true) 1) (word (clean f true) 2) (word (clean f true) 3) rfl (by first | exact HZ3.out.put _ _ _ _ | exact (HZ3.out.put _ _ _ _).alloc _)) rfl ?_
        exact ⟨by rw [HR.out]; rfl, by (with_reducible (repeat (first | exact HB3.out | apply bel_alloc | apply bel_put | apply bel_set | apply Below.drew | apply below_drewN | omega)))⟩
    have n94 := byte_ne (n := 94) e94
    have b94 : ((c.toNat : Int) == 94) = false := by rw [beq_eq_false_iff_ne]; exact n94
    have HN := hidden (show neg (p.drop at_) = false ∧ negLen (p.drop at_) = 0 by
      have : neg (p.drop at_) = false := by rw [HNEG.out]; simp [e33, e94]
      exact ⟨this, by unfold negLen; rw [this]; rfl⟩)
    clear e33 e94
    have HOF2 := hidden (HOF.out (at_) (by rw [HN.out.2]; rfl) (by omega))
    cases hs : setGo eOne (p.length + 1) true (p.drop (at_)) none_ with
    | none =>
      have HR := hidden (show setAns at_ (setOf (p.drop at_)) = .tuple #[setV none_, .int .i64 0, .bool false] by rw [HOF2.out, hs]; rfl)
      have HSR := hidden (show ∀ W, Calls Try.prog 25 #[.string ⟨p.toArray⟩, .int .i64 ((at_ : Int)), .func (.func 20) #[] #[]] W fun e w' => e = .returned (.tuple #[setV none_, .int .i64 0, .bool false]) ∧ Below W.heap.size W w' from fun W => by have h5 := sread_any p (at_) W hp (by omega); rw [hs] at h5; exact h5)
      clear hs
      go_enter Try.func19, Try.ntmps19
      go_wp2_with fail
      refine (HSR.out _).mono ?_
      rintro e w1 ⟨rfl, hb1⟩
      have HB1 := hidden (show Below w.heap.size w w1 from (by (with_reducible (repeat (first | exact HB0.out | apply bel_alloc | apply bel_put | apply bel_set | apply Below.drew | apply below_drewN | omega))) : Below w.heap.size w _).trans (hb1.mono (by simp)))
      have hA1 : Arr w1 w.heap.size 0 0 0 0 := Arr.later HA0.out hb1
      obtain ⟨c0, c1, c2, c3⟩ := hA1.cells
      obtain ⟨d0, d1, d2, d3⟩ := hA1.thawed
      have hal := hA1.lt
      rw [set_none]
      clear hb1
      go_wp2_with fail
      refine bodyPost_ret (results_set3 rfl _ _ w.heap.size 0 0 0 0 rfl (by first | exact (hA1.put 0 0 0 0).alloc _ | exact hA1.put 0 0 0 0)) rfl ?_
      exact ⟨by rw [HR.out, set_none]; rfl, by (with_reducible (repeat (first | exact HB1.out | apply bel_alloc | apply bel_put | apply bel_set | apply Below.drew | apply below_drewN | omega)))⟩
    | some r =>
      obtain ⟨f, m⟩ := r
      have hml := setGo_len true _ _ _ _ _ (show setGo true (p.length + 1) true (p.drop (at_)) none_ = some (f, m) from hs)
      rw [List.length_drop] at hml
      have hm2 : m ≤ p.length - (at_) := hml.2
      obtain ⟨k2, hk2⟩ : ∃ k2, k2 = at_ + m := ⟨_, rfl⟩
      have HR := hidden (show setAns at_ (setOf (p.drop at_)) = .tuple #[setV (clean f false), .int .i64 k2, .bool true] by
        rw [HOF2.out, hs]
        show Value.tuple #[setV (clean f (neg (p.drop at_))), .int .i64 (at_ + (m + negLen (p.drop at_)) : Nat), .bool true] = _
        rw [HN.out.1, HN.out.2, show at_ + (m + 0) = k2 by omega])
      have HSR := hidden (show ∀ W, Calls Try.prog 25 #[.string ⟨p.toArray⟩, .int .i64 ((at_ : Int)), .func (.func 20) #[] #[]] W fun e w' => e = .returned (.tuple #[setV f, .int .i64 k2, .bool true]) ∧ Below W.heap.size W w' from fun W => by have h5 := sread_any p (at_) W hp (by omega); rw [hs] at h5; rw [hk2]; exact h5)
      have hk2p : k2 ≤ p.length := by omega
      clear hs hml hm2 hk2
      go_enter Try.func19, Try.ntmps19
      go_wp2_with fail
      refine (HSR.out _).mono ?_
      rintro e w1 ⟨rfl, hb1⟩
      have hs1 : w.heap.size + 1 ≤ w1.heap.size := by have := hb1.size; simpa using this
      have HB1 := hidden (show Below w.heap.size w w1 from (by (with_reducible (repeat (first | exact HB0.out | apply bel_alloc | apply bel_put | apply bel_set | apply Below.drew | apply below_drewN | omega))) : Below w.heap.size w _).trans (hb1.mono (by simp)))
      have HZ1 := hidden (show Arr w1 w.heap.size 0 0 0 0 from Arr.later HA0.out hb1)
      have HF1 := hidden (Arr.new w1 (word f 0) (word f 1) (word f 2) (word f 3))
      clear hb1
      unfold setV
      go_wp2_with fail
      rw [show Value.agg #[.int .u64 (word f 0), .int .u64 (word f 1), .int .u64 (word f 2), .int .u64 (word f 3)] = setV f from rfl]
      refine (without_any f 47 _).mono ?_
      rintro e w3 ⟨rfl, hb3⟩
      rw [show butB f (UInt8.toNat 47) = clean f false from clean_self f]
      have HB3 := hidden (show Below w.heap.size w w3 from (by (with_reducible (repeat (first | exact HB1.out | apply bel_alloc | apply bel_put | apply bel_set | apply Below.drew | apply below_drewN | omega))) : Below w.heap.size w _).trans (hb3.mono (by have := HB1.out.size; simp; omega)))
      have hZ3 : Arr w3 w.heap.size 0 0 0 0 := Arr.later (HZ1.out.alloc _) hb3
      obtain ⟨c0, c1, c2, c3⟩ := hZ3.cells
      obtain ⟨d0, d1, d2, d3⟩ := hZ3.thawed
      have hzl := hZ3.lt
      have HZ3 := hidden hZ3
      clear hZ3 hb3
      unfold setV
      go_wp2_with fail
      refine bodyPost_ret (results_set3 rfl _ _ w.heap.size (word (clean f false) 0) (word (clean f false) 1) (word (clean f false) 2) (word (clean f false) 3) rfl (by first | exact HZ3.out.put _ _ _ _ | exact (HZ3.out.put _ _ _ _).alloc _)) rfl ?_
      exact ⟨by rw [HR.out]; rfl, by (with_reducible (repeat (first | exact HB3.out | apply bel_alloc | apply bel_put | apply bel_set | apply Below.drew | apply below_drewN | omega)))⟩
  · have h1i : ¬ (at_ : Int) < p.length := by omega
    have h1d : decide ((at_ : Int) < p.length) = false := decide_eq_false h1i
    have HN := hidden (show neg (p.drop at_) = false ∧ negLen (p.drop at_) = 0 by
      have : neg (p.drop at_) = false := by rw [HNEG.out]; simp [h1]
      exact ⟨this, by unfold negLen; rw [this]; rfl⟩)
    have HOF2 := hidden (HOF.out (at_) (by rw [HN.out.2]; rfl) (by omega))
    cases hs : setGo eOne (p.length + 1) true (p.drop (at_)) none_ with
    | none =>
      have HR := hidden (show setAns at_ (setOf (p.drop at_)) = .tuple #[setV none_, .int .i64 0, .bool false] by rw [HOF2.out, hs]; rfl)
      have HSR := hidden (show ∀ W, Calls Try.prog 25 #[.string ⟨p.toArray⟩, .int .i64 ((at_ : Int)), .func (.func 20) #[] #[]] W fun e w' => e = .returned (.tuple #[setV none_, .int .i64 0, .bool false]) ∧ Below W.heap.size W w' from fun W => by have h5 := sread_any p (at_) W hp (by omega); rw [hs] at h5; exact h5)
      clear hs
      go_enter Try.func19, Try.ntmps19
      go_wp2_with fail
      refine (HSR.out _).mono ?_
      rintro e w1 ⟨rfl, hb1⟩
      have HB1 := hidden (show Below w.heap.size w w1 from (by (with_reducible (repeat (first | exact HB0.out | apply bel_alloc | apply bel_put | apply bel_set | apply Below.drew | apply below_drewN | omega))) : Below w.heap.size w _).trans (hb1.mono (by simp)))
      have hA1 : Arr w1 w.heap.size 0 0 0 0 := Arr.later HA0.out hb1
      obtain ⟨c0, c1, c2, c3⟩ := hA1.cells
      obtain ⟨d0, d1, d2, d3⟩ := hA1.thawed
      have hal := hA1.lt
      rw [set_none]
      clear hb1
      go_wp2_with fail
      refine bodyPost_ret (results_set3 rfl _ _ w.heap.size 0 0 0 0 rfl (by first | exact (hA1.put 0 0 0 0).alloc _ | exact hA1.put 0 0 0 0)) rfl ?_
      exact ⟨by rw [HR.out, set_none]; rfl, by (with_reducible (repeat (first | exact HB1.out | apply bel_alloc | apply bel_put | apply bel_set | apply Below.drew | apply below_drewN | omega)))⟩
    | some r =>
      obtain ⟨f, m⟩ := r
      have hml := setGo_len true _ _ _ _ _ (show setGo true (p.length + 1) true (p.drop (at_)) none_ = some (f, m) from hs)
      rw [List.length_drop] at hml
      have hm2 : m ≤ p.length - (at_) := hml.2
      obtain ⟨k2, hk2⟩ : ∃ k2, k2 = at_ + m := ⟨_, rfl⟩
      have HR := hidden (show setAns at_ (setOf (p.drop at_)) = .tuple #[setV (clean f false), .int .i64 k2, .bool true] by
        rw [HOF2.out, hs]
        show Value.tuple #[setV (clean f (neg (p.drop at_))), .int .i64 (at_ + (m + negLen (p.drop at_)) : Nat), .bool true] = _
        rw [HN.out.1, HN.out.2, show at_ + (m + 0) = k2 by omega])
      have HSR := hidden (show ∀ W, Calls Try.prog 25 #[.string ⟨p.toArray⟩, .int .i64 ((at_ : Int)), .func (.func 20) #[] #[]] W fun e w' => e = .returned (.tuple #[setV f, .int .i64 k2, .bool true]) ∧ Below W.heap.size W w' from fun W => by have h5 := sread_any p (at_) W hp (by omega); rw [hs] at h5; rw [hk2]; exact h5)
      have hk2p : k2 ≤ p.length := by omega
      clear hs hml hm2 hk2
      go_enter Try.func19, Try.ntmps19
      go_wp2_with fail
      refine (HSR.out _).mono ?_
      rintro e w1 ⟨rfl, hb1⟩
      have hs1 : w.heap.size + 1 ≤ w1.heap.size := by have := hb1.size; simpa using this
      have HB1 := hidden (show Below w.heap.size w w1 from (by (with_reducible (repeat (first | exact HB0.out | apply bel_alloc | apply bel_put | apply bel_set | apply Below.drew | apply below_drewN | omega))) : Below w.heap.size w _).trans (hb1.mono (by simp)))
      have HZ1 := hidden (show Arr w1 w.heap.size 0 0 0 0 from Arr.later HA0.out hb1)
      have HF1 := hidden (Arr.new w1 (word f 0) (word f 1) (word f 2) (word f 3))
      clear hb1
      unfold setV
      go_wp2_with fail
      rw [show Value.agg #[.int .u64 (word f 0), .int .u64 (word f 1), .int .u64 (word f 2), .int .u64 (word f 3)] = setV f from rfl]
      refine (without_any f 47 _).mono ?_
      rintro e w3 ⟨rfl, hb3⟩
      rw [show butB f (UInt8.toNat 47) = clean f false from clean_self f]
      have HB3 := hidden (show Below w.heap.size w w3 from (by (with_reducible (repeat (first | exact HB1.out | apply bel_alloc | apply bel_put | apply bel_set | apply Below.drew | apply below_drewN | omega))) : Below w.heap.size w _).trans (hb3.mono (by have := HB1.out.size; simp; omega)))
      have hZ3 : Arr w3 w.heap.size 0 0 0 0 := Arr.later (HZ1.out.alloc _) hb3
      obtain ⟨c0, c1, c2, c3⟩ := hZ3.cells
      obtain ⟨d0, d1, d2, d3⟩ := hZ3.thawed
      have hzl := hZ3.lt
      have HZ3 := hidden hZ3
      clear hZ3 hb3
      unfold setV
      go_wp2_with fail
      refine bodyPost_ret (results_set3 rfl _ _ w.heap.size (word (clean f false) 0) (word (clean f false) 1) (word (clean f false) 2) (word (clean f false) 3) rfl (by first | exact HZ3.out.put _ _ _ _ | exact (HZ3.out.put _ _ _ _).alloc _)) rfl ?_
      exact ⟨by rw [HR.out]; rfl, by (with_reducible (repeat (first | exact HB3.out | apply bel_alloc | apply bel_put | apply bel_set | apply Below.drew | apply below_drewN | omega)))⟩

end Go.Proofs.Ythjhihpbilaifaa
