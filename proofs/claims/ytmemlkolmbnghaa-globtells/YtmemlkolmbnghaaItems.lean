/-
  What the program's noSlash, class, isClass, readByte, isDash and readItem answer; condition: the pattern's length.
-/
import Derived.Test.YtmemlkolmbnghaaSets
namespace Go.Proofs.Ytmemlkolmbnghaa
open Go.RowKit Go.Proofs.Ytmemlkolmbnghaa.Gl

theorem Arr.new (w : World) (x0 x1 x2 x3 : Nat) : Arr (w.alloc (.cells #[.int .u64 x0, .int .u64 x1, .int .u64 x2, .int .u64 x3] 35)) w.heap.size x0 x1 x2 x3 := by
  show (w.heap.push _)[w.heap.size]? = _
  exact Array.getElem?_push_size

theorem u64_not (x : Nat) (h : x < 18446744073709551616) : bits .xor .u64 IntKind.u64.max (x : Int) = ((18446744073709551615 - x : Nat) : Int) := by
  have e : IntKind.u64.max = ((18446744073709551615 : Nat) : Int) := by decide
  rw [e, u64_xor_nat _ _ (by decide) h]
  congr 1
  apply Nat.eq_of_testBit_eq
  intro i
  have h1 := Nat.testBit_two_pow_sub_succ (n := 64) (x := x) (by simpa using h) i
  rw [show 2 ^ 64 - (x + 1) = 18446744073709551615 - x by omega] at h1
  have h2 := Nat.testBit_two_pow_sub_one 64 i
  rw [show 2 ^ 64 - 1 = 18446744073709551615 by decide] at h2
  rw [Nat.testBit_xor, h1, h2]
  by_cases hi : i < 64
  · simp [hi]
  · have : x.testBit i = false := Nat.testBit_lt_two_pow (Nat.lt_of_lt_of_le (by simpa using h) (Nat.pow_le_pow_right (by decide) (by omega : 64 ≤ i)))
    simp [hi, this]
theorem clean_f (f : Bs) (i : Nat) : word f i &&& (18446744073709551615 - word (spn 47 47) i) = word (clean f false) i := by
  rw [word_andNot]
  apply word_ext
  intro c
  simp only [clean, spn]
  rw [Bool.eq_iff_iff]
  simp
  omega
theorem clean_t (f : Bs) (i : Nat) : (18446744073709551615 - word f i) &&& (18446744073709551615 - word (spn 47 47) i) = word (clean f true) i := by
  rw [word_not f, word_andNot]
  apply word_ext
  intro c
  simp only [clean, spn]
  rw [Bool.eq_iff_iff]
  simp
  omega

set_option maxHeartbeats 2000000 in
theorem noSlash_any (f : Bs) (o : Bool) (w : World) :
    Calls Try.prog 16 #[setV f, .bool o] w fun e w' => e = .returned (setV (clean f o)) ∧ Below w.heap.size w w' := by
  unfold setV
  go_enter Try.func16, Try.ntmps16
  go_wp2_with fail
  refine (span_any 47 47 _).mono ?_
  rintro e w1 ⟨rfl, hb1⟩
  have hA1 : Arr w1 w.heap.size (word f 0) (word f 1) (word f 2) (word f 3) := Arr.later ((Arr.new w _ _ _ _).alloc _) hb1
  have hZ1 : Arr w1 (w.heap.size + 1) 0 0 0 0 := Arr.later (by have := Arr.new (w.alloc (.cells #[.int .u64 (word f 0), .int .u64 (word f 1), .int .u64 (word f 2), .int .u64 (word f 3)] 35)) 0 0 0 0; rw [World.size_alloc] at this; exact this) hb1
  unfold setV
  obtain ⟨z0, hz0, z1, hz1, z2, hz2, z3, hz3, Y⟩ : ∃ y0, y0 < 18446744073709551616 ∧ ∃ y1, y1 < 18446744073709551616 ∧ ∃ y2, y2 < 18446744073709551616 ∧ ∃ y3, y3 < 18446744073709551616 ∧ Hid (word (spn 47 47) 0 = y0 ∧ word (spn 47 47) 1 = y1 ∧ word (spn 47 47) 2 = y2 ∧ word (spn 47 47) 3 = y3) :=
    ⟨_, word_lt (spn 47 47) 0, _, word_lt (spn 47 47) 1, _, word_lt (spn 47 47) 2, _, word_lt (spn 47 47) 3, rfl, rfl, rfl, rfl⟩
  simp only [show (47 : UInt8).toNat = 47 from rfl]
  rw [Y.out.1, Y.out.2.1, Y.out.2.2.1, Y.out.2.2.2]
  have HB1 := hidden (show Below w.heap.size w w1 from (((Below.refl _ w).alloc (Nat.le_refl _) _).alloc (by simp) _).trans (hb1.mono (by simp; omega)))
  have HA1 := hidden hA1
  have HZ1 := hidden hZ1
  have hs1 : w.heap.size + 2 ≤ w1.heap.size := by simpa using hb1.size
  clear hb1 hA1 hZ1
  go_wp2_with fail
  cases o
  · go_loopw [8] (fun i wr => ∃ (k x0 x1 x2 x3 : Nat), i = .int .i64 k ∧ k ≤ 4 ∧ Hid (Arr wr w.heap.size x0 x1 x2 x3 ∧ Arr wr w1.heap.size z0 z1 z2 z3 ∧ Arr wr (w.heap.size + 1) 0 0 0 0 ∧ x0 = sofar k 0 (word f 0 &&& (18446744073709551615 - z0)) (word f 0) ∧ x1 = sofar k 1 (word f 1 &&& (18446744073709551615 - z1)) (word f 1) ∧ x2 = sofar k 2 (word f 2 &&& (18446744073709551615 - z2)) (word f 2) ∧ x3 = sofar k 3 (word f 3 &&& (18446744073709551615 - z3)) (word f 3) ∧ Below w.heap.size w wr))
      (fun i _ => 4 - (intOf i).toNat)
    case atStart => exact ⟨0, _, _, _, _, rfl, by omega, HA1.out.alloc _, Arr.new _ _ _ _ _, HZ1.out.alloc _, rfl, rfl, rfl, rfl, HB1.out.alloc (by omega) _⟩
    case round =>
      obtain ⟨k, x0, x1, x2, x3, rfl, hk, H⟩ := hrel
      obtain ⟨hA, hS, hZ, h0, h1, h2, h3, hbl⟩ := H.out
      obtain ⟨a0, a1, a2, a3⟩ := hA.cells
      obtain ⟨f0, f1, f2, f3⟩ := hA.thawed
      obtain ⟨s0, s1, s2, s3⟩ := hS.cells
      have HA := hidden hA
      have HS := hidden hS
      have HZ := hidden hZ
      have HB := hidden hbl
      clear hA hS hZ hbl
      rcases (by omega : k = 0 ∨ k = 1 ∨ k = 2 ∨ k = 3 ∨ k = 4) with hq | hq | hq | hq | hq
      · subst hq
        have hx0 : x0 < 18446744073709551616 := by rw [h0]; exact word_lt _ _
        skip
        skip
        skip
        have hor := u64_andNot_nat x0 z0 (by omega) hz0
        skip
        have HR := hidden (And.intro h0 (And.intro h1 (And.intro h2 h3)))
        clear h0 h1 h2 h3 H 
        go_wp2_with fail
        go_region
        go_wp2
        go_roundw
        case rel =>
          refine ⟨1, (x0 &&& (18446744073709551615 - z0)), x1, x2, x3, rfl, by omega, ?_⟩
          obtain ⟨h0, h1, h2, h3⟩ := HR.out
          have hn : w1.heap.size ≠ w.heap.size := by omega
          have hn2 : w.heap.size + 1 ≠ w.heap.size := by omega
          refine ⟨(HA.out.set0 _).drew, (HS.out.other hn).drew, (HZ.out.other hn2).drew, by rw [h0]; rfl, h1, h2, h3, ?_⟩
          exact (HB.out.setCell (Nat.le_refl _) _).drew
        case measure => simp [intOf]
      · subst hq
        have hx1 : x1 < 18446744073709551616 := by rw [h1]; exact word_lt _ _
        skip
        skip
        skip
        have hor := u64_andNot_nat x1 z1 (by omega) hz1
        skip
        have HR := hidden (And.intro h0 (And.intro h1 (And.intro h2 h3)))
        clear h0 h1 h2 h3 H 
        go_wp2_with fail
        go_region
        go_wp2
        go_roundw
        case rel =>
          refine ⟨2, x0, (x1 &&& (18446744073709551615 - z1)), x2, x3, rfl, by omega, ?_⟩
          obtain ⟨h0, h1, h2, h3⟩ := HR.out
          have hn : w1.heap.size ≠ w.heap.size := by omega
          have hn2 : w.heap.size + 1 ≠ w.heap.size := by omega
          refine ⟨(HA.out.set1 _).drew, (HS.out.other hn).drew, (HZ.out.other hn2).drew, h0, by rw [h1]; rfl, h2, h3, ?_⟩
          exact (HB.out.setCell (Nat.le_refl _) _).drew
        case measure => simp [intOf]
      · subst hq
        have hx2 : x2 < 18446744073709551616 := by rw [h2]; exact word_lt _ _
        skip
        skip
        skip
        have hor := u64_andNot_nat x2 z2 (by omega) hz2
        skip
        have HR := hidden (And.intro h0 (And.intro h1 (And.intro h2 h3)))
        clear h0 h1 h2 h3 H 
        go_wp2_with fail
        go_region
        go_wp2
        go_roundw
        case rel =>
          refine ⟨3, x0, x1, (x2 &&& (18446744073709551615 - z2)), x3, rfl, by omega, ?_⟩
          obtain ⟨h0, h1, h2, h3⟩ := HR.out
          have hn : w1.heap.size ≠ w.heap.size := by omega
          have hn2 : w.heap.size + 1 ≠ w.heap.size := by omega
          refine ⟨(HA.out.set2 _).drew, (HS.out.other hn).drew, (HZ.out.other hn2).drew, h0, h1, by rw [h2]; rfl, h3, ?_⟩
          exact (HB.out.setCell (Nat.le_refl _) _).drew
        case measure => simp [intOf]
      · subst hq
        have hx3 : x3 < 18446744073709551616 := by rw [h3]; exact word_lt _ _
        skip
        skip
        skip
        have hor := u64_andNot_nat x3 z3 (by omega) hz3
        skip
        have HR := hidden (And.intro h0 (And.intro h1 (And.intro h2 h3)))
        clear h0 h1 h2 h3 H 
        go_wp2_with fail
        go_region
        go_wp2
        go_roundw
        case rel =>
          refine ⟨4, x0, x1, x2, (x3 &&& (18446744073709551615 - z3)), rfl, by omega, ?_⟩
          obtain ⟨h0, h1, h2, h3⟩ := HR.out
          have hn : w1.heap.size ≠ w.heap.size := by omega
          have hn2 : w.heap.size + 1 ≠ w.heap.size := by omega
          refine ⟨(HA.out.set3 _).drew, (HS.out.other hn).drew, (HZ.out.other hn2).drew, h0, h1, h2, by rw [h3]; rfl, ?_⟩
          exact (HB.out.setCell (Nat.le_refl _) _).drew
        case measure => simp [intOf]
      · subst hq
        have HR := hidden (And.intro h0 (And.intro h1 (And.intro h2 h3)))
        obtain ⟨c0, c1, c2, c3⟩ := HZ.out.cells
        obtain ⟨d0, d1, d2, d3⟩ := HZ.out.thawed
        clear h0 h1 h2 h3 H
        go_wp2_with fail
        refine bodyPost_ret (v := .agg #[.int .u64 x0, .int .u64 x1, .int .u64 x2, .int .u64 x3]) (by simp [results, Try.results16, go_sem, c0, c1, c2, c3]) rfl ?_
        refine ⟨?_, (((HB.out.setCell (Nat.le_succ _) _).setCell (Nat.le_succ _) _).setCell (Nat.le_succ _) _).setCell (Nat.le_succ _) _⟩
        obtain ⟨h0, h1, h2, h3⟩ := HR.out
        obtain ⟨rfl, rfl, rfl, rfl⟩ := Y.out
        rw [h0, h1, h2, h3]
        simp only [sofar, if_pos (show 0 < 4 by decide), if_pos (show 1 < 4 by decide), if_pos (show 2 < 4 by decide), if_pos (show 3 < 4 by decide), clean_f]
  · go_loopw [8] (fun i wr => ∃ (k x0 x1 x2 x3 : Nat), i = .int .i64 k ∧ k ≤ 4 ∧ Hid (Arr wr w.heap.size x0 x1 x2 x3 ∧ Arr wr w1.heap.size z0 z1 z2 z3 ∧ Arr wr (w.heap.size + 1) 0 0 0 0 ∧ x0 = sofar k 0 ((18446744073709551615 - word f 0) &&& (18446744073709551615 - z0)) (word f 0) ∧ x1 = sofar k 1 ((18446744073709551615 - word f 1) &&& (18446744073709551615 - z1)) (word f 1) ∧ x2 = sofar k 2 ((18446744073709551615 - word f 2) &&& (18446744073709551615 - z2)) (word f 2) ∧ x3 = sofar k 3 ((18446744073709551615 - word f 3) &&& (18446744073709551615 - z3)) (word f 3) ∧ Below w.heap.size w wr))
      (fun i _ => 4 - (intOf i).toNat)
    case atStart => exact ⟨0, _, _, _, _, rfl, by omega, HA1.out.alloc _, Arr.new _ _ _ _ _, HZ1.out.alloc _, rfl, rfl, rfl, rfl, HB1.out.alloc (by omega) _⟩
    case round =>
      obtain ⟨k, x0, x1, x2, x3, rfl, hk, H⟩ := hrel
      obtain ⟨hA, hS, hZ, h0, h1, h2, h3, hbl⟩ := H.out
      obtain ⟨a0, a1, a2, a3⟩ := hA.cells
      obtain ⟨f0, f1, f2, f3⟩ := hA.thawed
      obtain ⟨s0, s1, s2, s3⟩ := hS.cells
      have HA := hidden hA
      have HS := hidden hS
      have HZ := hidden hZ
      have HB := hidden hbl
      clear hA hS hZ hbl
      rcases (by omega : k = 0 ∨ k = 1 ∨ k = 2 ∨ k = 3 ∨ k = 4) with hq | hq | hq | hq | hq
      · subst hq
        have hx0 : x0 < 18446744073709551616 := by rw [h0]; exact word_lt _ _
        obtain ⟨y, hy⟩ : ∃ y, y = 18446744073709551615 - x0 := ⟨_, rfl⟩
        have hno := u64_not x0 hx0
        rw [← hy] at hno
        have hor := u64_andNot_nat y z0 (by omega) hz0
        have HY := hidden hy
        have HR := hidden (And.intro h0 (And.intro h1 (And.intro h2 h3)))
        clear h0 h1 h2 h3 H hy
        go_wp2_with fail
        go_region
        go_wp2
        go_roundw
        case rel =>
          refine ⟨1, (y &&& (18446744073709551615 - z0)), x1, x2, x3, rfl, by omega, ?_⟩
          obtain ⟨h0, h1, h2, h3⟩ := HR.out
          have hn : w1.heap.size ≠ w.heap.size := by omega
          have hn2 : w.heap.size + 1 ≠ w.heap.size := by omega
          refine ⟨((HA.out.set0 _).set0 _).drew, ((HS.out.other hn).other hn).drew, ((HZ.out.other hn2).other hn2).drew, by rw [HY.out, h0]; rfl, h1, h2, h3, ?_⟩
          exact ((HB.out.setCell (Nat.le_refl _) _).setCell (Nat.le_refl _) _).drew
        case measure => simp [intOf]
      · subst hq
        have hx1 : x1 < 18446744073709551616 := by rw [h1]; exact word_lt _ _
        obtain ⟨y, hy⟩ : ∃ y, y = 18446744073709551615 - x1 := ⟨_, rfl⟩
        have hno := u64_not x1 hx1
        rw [← hy] at hno
        have hor := u64_andNot_nat y z1 (by omega) hz1
        have HY := hidden hy
        have HR := hidden (And.intro h0 (And.intro h1 (And.intro h2 h3)))
        clear h0 h1 h2 h3 H hy
        go_wp2_with fail
        go_region
        go_wp2
        go_roundw
        case rel =>
          refine ⟨2, x0, (y &&& (18446744073709551615 - z1)), x2, x3, rfl, by omega, ?_⟩
          obtain ⟨h0, h1, h2, h3⟩ := HR.out
          have hn : w1.heap.size ≠ w.heap.size := by omega
          have hn2 : w.heap.size + 1 ≠ w.heap.size := by omega
          refine ⟨((HA.out.set1 _).set1 _).drew, ((HS.out.other hn).other hn).drew, ((HZ.out.other hn2).other hn2).drew, h0, by rw [HY.out, h1]; rfl, h2, h3, ?_⟩
          exact ((HB.out.setCell (Nat.le_refl _) _).setCell (Nat.le_refl _) _).drew
        case measure => simp [intOf]
      · subst hq
        have hx2 : x2 < 18446744073709551616 := by rw [h2]; exact word_lt _ _
        obtain ⟨y, hy⟩ : ∃ y, y = 18446744073709551615 - x2 := ⟨_, rfl⟩
        have hno := u64_not x2 hx2
        rw [← hy] at hno
        have hor := u64_andNot_nat y z2 (by omega) hz2
        have HY := hidden hy
        have HR := hidden (And.intro h0 (And.intro h1 (And.intro h2 h3)))
        clear h0 h1 h2 h3 H hy
        go_wp2_with fail
        go_region
        go_wp2
        go_roundw
        case rel =>
          refine ⟨3, x0, x1, (y &&& (18446744073709551615 - z2)), x3, rfl, by omega, ?_⟩
          obtain ⟨h0, h1, h2, h3⟩ := HR.out
          have hn : w1.heap.size ≠ w.heap.size := by omega
          have hn2 : w.heap.size + 1 ≠ w.heap.size := by omega
          refine ⟨((HA.out.set2 _).set2 _).drew, ((HS.out.other hn).other hn).drew, ((HZ.out.other hn2).other hn2).drew, h0, h1, by rw [HY.out, h2]; rfl, h3, ?_⟩
          exact ((HB.out.setCell (Nat.le_refl _) _).setCell (Nat.le_refl _) _).drew
        case measure => simp [intOf]
      · subst hq
        have hx3 : x3 < 18446744073709551616 := by rw [h3]; exact word_lt _ _
        obtain ⟨y, hy⟩ : ∃ y, y = 18446744073709551615 - x3 := ⟨_, rfl⟩
        have hno := u64_not x3 hx3
        rw [← hy] at hno
        have hor := u64_andNot_nat y z3 (by omega) hz3
        have HY := hidden hy
        have HR := hidden (And.intro h0 (And.intro h1 (And.intro h2 h3)))
        clear h0 h1 h2 h3 H hy
        go_wp2_with fail
        go_region
        go_wp2
        go_roundw
        case rel =>
          refine ⟨4, x0, x1, x2, (y &&& (18446744073709551615 - z3)), rfl, by omega, ?_⟩
          obtain ⟨h0, h1, h2, h3⟩ := HR.out
          have hn : w1.heap.size ≠ w.heap.size := by omega
          have hn2 : w.heap.size + 1 ≠ w.heap.size := by omega
          refine ⟨((HA.out.set3 _).set3 _).drew, ((HS.out.other hn).other hn).drew, ((HZ.out.other hn2).other hn2).drew, h0, h1, h2, by rw [HY.out, h3]; rfl, ?_⟩
          exact ((HB.out.setCell (Nat.le_refl _) _).setCell (Nat.le_refl _) _).drew
        case measure => simp [intOf]
      · subst hq
        have HR := hidden (And.intro h0 (And.intro h1 (And.intro h2 h3)))
        obtain ⟨c0, c1, c2, c3⟩ := HZ.out.cells
        obtain ⟨d0, d1, d2, d3⟩ := HZ.out.thawed
        clear h0 h1 h2 h3 H
        go_wp2_with fail
        refine bodyPost_ret (v := .agg #[.int .u64 x0, .int .u64 x1, .int .u64 x2, .int .u64 x3]) (by simp [results, Try.results16, go_sem, c0, c1, c2, c3]) rfl ?_
        refine ⟨?_, (((HB.out.setCell (Nat.le_succ _) _).setCell (Nat.le_succ _) _).setCell (Nat.le_succ _) _).setCell (Nat.le_succ _) _⟩
        obtain ⟨h0, h1, h2, h3⟩ := HR.out
        obtain ⟨rfl, rfl, rfl, rfl⟩ := Y.out
        rw [h0, h1, h2, h3]
        simp only [sofar, if_pos (show 0 < 4 by decide), if_pos (show 1 < 4 by decide), if_pos (show 2 < 4 by decide), if_pos (show 3 < 4 by decide), clean_t]

end Go.Proofs.Ytmemlkolmbnghaa
