/-
  What the program's Has, Span, With, Others and Without answer: sets of bytes as four words; no conditions.
-/
import Derived.WalkKit
import Derived.WalkSpells
import Derived.WalkLawsBesides
import Derived.OwnWalk
import Derived.BigQuiet
import Derived.Deep.QuietTactic
import Derived.Deep.Cut
import Derived.Test.YthjhihpbilaifaaProg
import Derived.Test.YthjhihpbilaifaaSPlain
namespace Go.Proofs.Ythjhihpbilaifaa
open Go.RowKit Go.Proofs.Ythjhihpbilaifaa.Gl

theorem hidden {p : Prop} (h : p) : Hid p := h
theorem ret_int {k : IntKind} {a b : Int} (h : a = b) : Ending.returned (.int k a) = .returned (.int k b) := by rw [h]
theorem ret_bool {a b : Bool} (h : a = b) : Ending.returned (.bool a) = .returned (.bool b) := by rw [h]

/-- a set as a value -/
def setV (f : Bs) : Value := .agg #[.int .u64 (word f 0), .int .u64 (word f 1), .int .u64 (word f 2), .int .u64 (word f 3)]

theorem words_at (f : Bs) (k : Nat) (h : k < 4) : [Value.int .u64 (word f 0), Value.int .u64 (word f 1), Value.int .u64 (word f 2), Value.int .u64 (word f 3)][k]? = some (.int .u64 (word f k)) := by
  rcases (by omega : k = 0 ∨ k = 1 ∨ k = 2 ∨ k = 3) with rfl | rfl | rfl | rfl <;> rfl

set_option maxHeartbeats 1000000 in
theorem has_any (f : Bs) (c : UInt8) (w : World) :
    Calls Try.prog 13 #[setV f, .int .u8 c.toNat] w fun e w' => e = .returned (.bool (f c.toNat)) ∧ Below w.heap.size w w' := by
  have hc : c.toNat < 256 := c.toNat_lt
  obtain ⟨n, hn⟩ : ∃ n, n = c.toNat := ⟨_, rfl⟩
  rw [← hn] at hc ⊢
  clear hn
  have hq : n / 64 < 4 := by omega
  have hw := words_at f (n / 64) hq
  have hw2 : ∀ h, [Value.int .u64 (word f 0), Value.int .u64 (word f 1), Value.int .u64 (word f 2), Value.int .u64 (word f 3)][n / 64]'h = .int .u64 (word f (n / 64)) := fun h => (List.getElem?_eq_some_iff.1 hw).2
  have hwl := word_lt f (n / 64)
  have HH := hidden (word_has f n)
  unfold setV
  go_enter Try.func13, Try.ntmps13
  go_wp2
  go_ret
  refine ⟨ret_bool ?_, (Below.refl _ w).alloc (Nat.le_refl _) _⟩
  have e1 : ((word f (n / 64) : Int) / 2 ^ (n % 64)) = ((word f (n / 64) / 2 ^ (n % 64) : Nat) : Int) := by
    rw [Int.natCast_ediv, Int.natCast_pow]; rfl
  have e2 : word f (n / 64) / 2 ^ (n % 64) < 18446744073709551616 := Nat.lt_of_le_of_lt (Nat.div_le_self _ _) hwl
  have e3 := u64_and_nat (word f (n / 64) / 2 ^ (n % 64)) 1 e2 (by decide)
  rw [e1, show (1 : Int) = ((1 : Nat) : Int) from rfl, e3]
  have h4 := HH.out
  by_cases h : f n = true
  · rw [h, h4.mpr h]; rfl
  · have h5 : ¬ (word f (n / 64) / 2 ^ (n % 64) &&& 1 = 1) := fun e => h (h4.mp e)
    rw [Bool.not_eq_true] at h
    rw [h, beq_eq_false_iff_ne]
    intro e
    exact h5 (by exact_mod_cast e)

theorem upTo_none' (m i : Nat) : word (fun c => decide (m ≤ c) && decide (c < m)) i = 0 := by
  rw [← word_none i]
  apply word_ext
  intro c
  rw [Bool.eq_iff_iff]
  simp
/-- from one byte on, up to another -/
def upTo (m k : Nat) : Bs := fun c => decide (m ≤ c) && decide (c < k)
theorem upTo_none (m i : Nat) : word (upTo m m) i = 0 := upTo_none' m i
theorem upTo_done {m k n : Nat} (h : k = m ∨ k ≤ n + 1) (h2 : ¬ k ≤ n) (i : Nat) : word (upTo m k) i = word (spn m n) i := by
  apply word_ext
  intro c
  unfold upTo spn
  rw [Bool.eq_iff_iff]
  simp
  omega
theorem upTo_more {m k : Nat} (h : m ≤ k) (i : Nat) : word (upTo m (k + 1)) i = if i = k / 64 then word (upTo m k) i ||| 2 ^ (k % 64) else word (upTo m k) i := by
  have e : upTo m (k + 1) = fun d => upTo m k d || d == k := by
    funext d
    unfold upTo
    rw [Bool.eq_iff_iff]
    simp
    omega
  rw [e]
  split
  · rename_i h; subst h; exact (word_put _ _).symm
  · rename_i h; exact word_far _ _ _ h
theorem or_put (x k : Nat) (h : x < 18446744073709551616) : bits .or .u64 (x : Int) (IntKind.u64.wrap (2 ^ (k % 64))) = ((x ||| 2 ^ (k % 64) : Nat) : Int) := by
  have hp : 2 ^ (k % 64) < 18446744073709551616 := Nat.lt_of_lt_of_le (Nat.pow_lt_pow_right (by decide) (Nat.mod_lt k (by decide : 64 > 0))) (by decide)
  have := u64_or_nat x (2 ^ (k % 64)) h hp
  have e : IntKind.u64.wrap (2 ^ (k % 64)) = ((2 ^ (k % 64) : Nat) : Int) := by
    rw [IntKind.wrap_u64, show ((2 : Int) ^ (k % 64)) = ((2 ^ (k % 64) : Nat) : Int) by rw [Int.natCast_pow]; rfl]
    generalize 2 ^ (k % 64) = y at hp
    omega
  rw [e]
  exact this

set_option maxHeartbeats 1000000 in
theorem span_any (a b : UInt8) (w : World) :
    Calls Try.prog 21 #[.int .u8 a.toNat, .int .u8 b.toNat] w fun e w' => e = .returned (setV (spn a.toNat b.toNat)) ∧ Below w.heap.size w w' := by
  have ha : a.toNat < 256 := a.toNat_lt
  have hb : b.toNat < 256 := b.toNat_lt
  obtain ⟨m, hm⟩ : ∃ n, n = a.toNat := ⟨_, rfl⟩
  obtain ⟨n, hn⟩ : ∃ n, n = b.toNat := ⟨_, rfl⟩
  rw [← hn] at hb ⊢
  rw [← hm] at ha ⊢
  clear hn hm
  go_enter Try.func21, Try.ntmps21
  go_wp2_with fail
  go_loopw [6] (fun i wr => ∃ (k x0 x1 x2 x3 : Nat) (w0 : World), i = .int .i64 k ∧ k ≤ 256 ∧ wr = (w0.alloc (.cells #[Value.int IntKind.u64 0, Value.int IntKind.u64 0, Value.int IntKind.u64 0, Value.int IntKind.u64 0] 35)).alloc (.cells #[.int .u64 x0, .int .u64 x1, .int .u64 x2, .int .u64 x3] 35) ∧ w.heap.size = w0.heap.size ∧ Hid (m ≤ k ∧ (k = m ∨ k ≤ n + 1) ∧ x0 = word (upTo m k) 0 ∧ x1 = word (upTo m k) 1 ∧ x2 = word (upTo m k) 2 ∧ x3 = word (upTo m k) 3 ∧ Below w.heap.size w w0))
    (fun i _ => 256 - (intOf i).toNat)
  case atStart =>
    exact ⟨m, 0, 0, 0, 0, w, rfl, by omega, rfl, rfl, Nat.le_refl _, Or.inl rfl, (upTo_none m 0).symm, (upTo_none m 1).symm, (upTo_none m 2).symm, (upTo_none m 3).symm, Below.refl _ _⟩
  case round =>
    obtain ⟨k, x0, x1, x2, x3, w0, rfl, hk, rfl, hsz, H⟩ := hrel
    by_cases hlt : k ≤ n
    · have hx0 : x0 < 18446744073709551616 := by rw [H.out.2.2.1]; exact word_lt _ _
      have hx1 : x1 < 18446744073709551616 := by rw [H.out.2.2.2.1]; exact word_lt _ _
      have hx2 : x2 < 18446744073709551616 := by rw [H.out.2.2.2.2.1]; exact word_lt _ _
      have hx3 : x3 < 18446744073709551616 := by rw [H.out.2.2.2.2.2.1]; exact word_lt _ _
      rcases (by omega : k / 64 = 0 ∨ k / 64 = 1 ∨ k / 64 = 2 ∨ k / 64 = 3) with hq | hq | hq | hq
      · have hor := or_put x0 k hx0
        go_wp2_with fail
        go_region
        go_wp2
        go_roundw
        case rel =>
          obtain ⟨h0, h1, h2, h3, h4, h5, hbl⟩ := H.out
          exact ⟨k + 1, x0 ||| 2 ^ (k % 64), x1, x2, x3, w0.drew, by go_num, by omega, rfl, hsz, by omega, Or.inr (by omega), by rw [upTo_more h0, if_pos hq.symm, h2], by rw [upTo_more h0, if_neg (by omega), h3], by rw [upTo_more h0, if_neg (by omega), h4], by rw [upTo_more h0, if_neg (by omega), h5], hbl.drew⟩
        case measure => simp [intOf]; omega
      · have hor := or_put x1 k hx1
        go_wp2_with fail
        go_region
        go_wp2
        go_roundw
        case rel =>
          obtain ⟨h0, h1, h2, h3, h4, h5, hbl⟩ := H.out
          exact ⟨k + 1, x0, x1 ||| 2 ^ (k % 64), x2, x3, w0.drew, by go_num, by omega, rfl, hsz, by omega, Or.inr (by omega), by rw [upTo_more h0, if_neg (by omega), h2], by rw [upTo_more h0, if_pos hq.symm, h3], by rw [upTo_more h0, if_neg (by omega), h4], by rw [upTo_more h0, if_neg (by omega), h5], hbl.drew⟩
        case measure => simp [intOf]; omega
      · have hor := or_put x2 k hx2
        go_wp2_with fail
        go_region
        go_wp2
        go_roundw
        case rel =>
          obtain ⟨h0, h1, h2, h3, h4, h5, hbl⟩ := H.out
          exact ⟨k + 1, x0, x1, x2 ||| 2 ^ (k % 64), x3, w0.drew, by go_num, by omega, rfl, hsz, by omega, Or.inr (by omega), by rw [upTo_more h0, if_neg (by omega), h2], by rw [upTo_more h0, if_neg (by omega), h3], by rw [upTo_more h0, if_pos hq.symm, h4], by rw [upTo_more h0, if_neg (by omega), h5], hbl.drew⟩
        case measure => simp [intOf]; omega
      · have hor := or_put x3 k hx3
        go_wp2_with fail
        go_region
        go_wp2
        go_roundw
        case rel =>
          obtain ⟨h0, h1, h2, h3, h4, h5, hbl⟩ := H.out
          exact ⟨k + 1, x0, x1, x2, x3 ||| 2 ^ (k % 64), w0.drew, by go_num, by omega, rfl, hsz, by omega, Or.inr (by omega), by rw [upTo_more h0, if_neg (by omega), h2], by rw [upTo_more h0, if_neg (by omega), h3], by rw [upTo_more h0, if_neg (by omega), h4], by rw [upTo_more h0, if_pos hq.symm, h5], hbl.drew⟩
        case measure => simp [intOf]; omega
    · go_wp2_with fail
      refine bodyPost_ret (v := .agg #[.int .u64 x0, .int .u64 x1, .int .u64 x2, .int .u64 x3]) (by simp [results, Try.results21, go_sem, hsz]) rfl ?_
      obtain ⟨_, h1, rfl, rfl, rfl, rfl, hbl⟩ := H.out
      refine ⟨?_, (hbl.alloc (by omega) _).alloc (by simp; omega) _⟩
      simp only [upTo_done h1 hlt, setV]

/-- four words in a block -/
def Arr (W : World) (b x0 x1 x2 x3 : Nat) : Prop := W.heap[b]? = some (.cells #[.int .u64 x0, .int .u64 x1, .int .u64 x2, .int .u64 x3] 35)
theorem Arr.cells {W : World} {b x0 x1 x2 x3 : Nat} (h : Arr W b x0 x1 x2 x3) : W.cell? ⟨b, 0, none⟩ = some (.int .u64 x0) ∧ W.cell? ⟨b, 1, none⟩ = some (.int .u64 x1) ∧ W.cell? ⟨b, 2, none⟩ = some (.int .u64 x2) ∧ W.cell? ⟨b, 3, none⟩ = some (.int .u64 x3) := by
  unfold Arr at h
  simp [World.cell?, h]
theorem Arr.thawed {W : World} {b x0 x1 x2 x3 : Nat} (h : Arr W b x0 x1 x2 x3) : W.frozen? ⟨b, 0, none⟩ = false ∧ W.frozen? ⟨b, 1, none⟩ = false ∧ W.frozen? ⟨b, 2, none⟩ = false ∧ W.frozen? ⟨b, 3, none⟩ = false := by
  unfold Arr at h
  simp [World.frozen?, h]
theorem Arr.lt {W : World} {b x0 x1 x2 x3 : Nat} (h : Arr W b x0 x1 x2 x3) : b < W.heap.size := (Array.getElem?_eq_some_iff.1 h).1
theorem Arr.later {W W' : World} {b x0 x1 x2 x3 : Nat} (h : Arr W b x0 x1 x2 x3) (hb : Below W.heap.size W W') : Arr W' b x0 x1 x2 x3 := by
  unfold Arr; rw [hb.block b h.lt]; exact h
theorem Arr.drew {W : World} {b x0 x1 x2 x3 : Nat} (h : Arr W b x0 x1 x2 x3) : Arr W.drew b x0 x1 x2 x3 := h
theorem Arr.alloc {W : World} {b x0 x1 x2 x3 : Nat} (h : Arr W b x0 x1 x2 x3) (o : Obj) : Arr (W.alloc o) b x0 x1 x2 x3 := h.later ((Below.refl _ W).alloc (Nat.le_refl _) o)
theorem Arr.other {W : World} {b x0 x1 x2 x3 : Nat} (h : Arr W b x0 x1 x2 x3) {g i : Nat} {v : Value} (hn : b ≠ g) : Arr (W.setCell ⟨g, i, none⟩ v) b x0 x1 x2 x3 := by
  unfold Arr; rw [heap_setCell_other W ⟨g, i, none⟩ b v hn]; exact h
theorem Arr.set0 {W : World} {b x0 x1 x2 x3 : Nat} (h : Arr W b x0 x1 x2 x3) (y : Nat) : Arr (W.setCell ⟨b, 0, none⟩ (.int .u64 y)) b y x1 x2 x3 := heap_setCell_same W b 0 _ 35 _ h
theorem Arr.set1 {W : World} {b x0 x1 x2 x3 : Nat} (h : Arr W b x0 x1 x2 x3) (y : Nat) : Arr (W.setCell ⟨b, 1, none⟩ (.int .u64 y)) b x0 y x2 x3 := heap_setCell_same W b 1 _ 35 _ h
theorem Arr.set2 {W : World} {b x0 x1 x2 x3 : Nat} (h : Arr W b x0 x1 x2 x3) (y : Nat) : Arr (W.setCell ⟨b, 2, none⟩ (.int .u64 y)) b x0 x1 y x3 := heap_setCell_same W b 2 _ 35 _ h
theorem Arr.set3 {W : World} {b x0 x1 x2 x3 : Nat} (h : Arr W b x0 x1 x2 x3) (y : Nat) : Arr (W.setCell ⟨b, 3, none⟩ (.int .u64 y)) b x0 x1 x2 y := heap_setCell_same W b 3 _ 35 _ h

/-- what is done so far, word by word -/
def sofar (k i a b : Nat) : Nat := if i < k then a else b

set_option maxHeartbeats 2000000 in
theorem with_any (f g : Bs) (w : World) :
    Calls Try.prog 29 #[setV f, setV g] w fun e w' => e = .returned (setV (both f g)) ∧ Below w.heap.size w w' := by
  unfold setV
  obtain ⟨y0, hy0, y1, hy1, y2, hy2, y3, hy3, Y⟩ : ∃ y0, y0 < 18446744073709551616 ∧ ∃ y1, y1 < 18446744073709551616 ∧ ∃ y2, y2 < 18446744073709551616 ∧ ∃ y3, y3 < 18446744073709551616 ∧ Hid (word g 0 = y0 ∧ word g 1 = y1 ∧ word g 2 = y2 ∧ word g 3 = y3) :=
    ⟨_, word_lt g 0, _, word_lt g 1, _, word_lt g 2, _, word_lt g 3, rfl, rfl, rfl, rfl⟩
  rw [Y.out.1, Y.out.2.1, Y.out.2.2.1, Y.out.2.2.2]
  go_enter Try.func29, Try.ntmps29
  go_wp2_with fail
  go_loopw [6] (fun i wr => ∃ (k x0 x1 x2 x3 : Nat) (w0 : World), i = .int .i64 k ∧ k ≤ 4 ∧ wr = ((w0.alloc (.cells #[.int .u64 x0, .int .u64 x1, .int .u64 x2, .int .u64 x3] 35)).alloc (.cells #[.int .u64 y0, .int .u64 y1, .int .u64 y2, .int .u64 y3] 35)).alloc (.cells #[Value.int IntKind.u64 0, Value.int IntKind.u64 0, Value.int IntKind.u64 0, Value.int IntKind.u64 0] 35) ∧ w.heap.size = w0.heap.size ∧ Hid (x0 = sofar k 0 (word f 0 ||| y0) (word f 0) ∧ x1 = sofar k 1 (word f 1 ||| y1) (word f 1) ∧ x2 = sofar k 2 (word f 2 ||| y2) (word f 2) ∧ x3 = sofar k 3 (word f 3 ||| y3) (word f 3) ∧ Below w.heap.size w w0))
    (fun i _ => 4 - (intOf i).toNat)
  case atStart => exact ⟨0, _, _, _, _, w, rfl, by omega, rfl, rfl, rfl, rfl, rfl, rfl, Below.refl _ _⟩
  case round =>
    obtain ⟨k, x0, x1, x2, x3, w0, rfl, hk, rfl, hsz, H⟩ := hrel
    obtain ⟨h0, h1, h2, h3, hbl⟩ := H.out
    have HB := hidden hbl
    rcases (by omega : k = 0 ∨ k = 1 ∨ k = 2 ∨ k = 3 ∨ k = 4) with hq | hq | hq | hq | hq
    · subst hq
      have hx0 : x0 < 18446744073709551616 := by rw [h0]; exact word_lt _ _
      have hor := u64_or_nat x0 y0 hx0 hy0
      have H0 := hidden (show x0 = word f 0 from h0)
      have HR := hidden (And.intro h0 (And.intro h1 (And.intro h2 h3)))
      clear h0 h1 h2 h3 H hbl
      go_wp2_with fail
      go_region
      go_wp2
      go_roundw
      case rel =>
        refine ⟨1, x0 ||| y0, x1, x2, x3, w0.drew, rfl, by omega, rfl, hsz, ?_⟩
        obtain ⟨h0, h1, h2, h3⟩ := HR.out
        exact ⟨by rw [h0]; rfl, h1, h2, h3, HB.out.drew⟩
      case measure => simp [intOf]
    · subst hq
      have hx1 : x1 < 18446744073709551616 := by rw [h1]; exact word_lt _ _
      have hor := u64_or_nat x1 y1 hx1 hy1
      have H1 := hidden (show x1 = word f 1 from h1)
      have HR := hidden (And.intro h0 (And.intro h1 (And.intro h2 h3)))
      clear h0 h1 h2 h3 H hbl
      go_wp2_with fail
      go_region
      go_wp2
      go_roundw
      case rel =>
        refine ⟨2, x0, x1 ||| y1, x2, x3, w0.drew, rfl, by omega, rfl, hsz, ?_⟩
        obtain ⟨h0, h1, h2, h3⟩ := HR.out
        exact ⟨h0, by rw [h1]; rfl, h2, h3, HB.out.drew⟩
      case measure => simp [intOf]
    · subst hq
      have hx2 : x2 < 18446744073709551616 := by rw [h2]; exact word_lt _ _
      have hor := u64_or_nat x2 y2 hx2 hy2
      have H2 := hidden (show x2 = word f 2 from h2)
      have HR := hidden (And.intro h0 (And.intro h1 (And.intro h2 h3)))
      clear h0 h1 h2 h3 H hbl
      go_wp2_with fail
      go_region
      go_wp2
      go_roundw
      case rel =>
        refine ⟨3, x0, x1, x2 ||| y2, x3, w0.drew, rfl, by omega, rfl, hsz, ?_⟩
        obtain ⟨h0, h1, h2, h3⟩ := HR.out
        exact ⟨h0, h1, by rw [h2]; rfl, h3, HB.out.drew⟩
      case measure => simp [intOf]
    · subst hq
      have hx3 : x3 < 18446744073709551616 := by rw [h3]; exact word_lt _ _
      have hor := u64_or_nat x3 y3 hx3 hy3
      have H3 := hidden (show x3 = word f 3 from h3)
      have HR := hidden (And.intro h0 (And.intro h1 (And.intro h2 h3)))
      clear h0 h1 h2 h3 H hbl
      go_wp2_with fail
      go_region
      go_wp2
      go_roundw
      case rel =>
        refine ⟨4, x0, x1, x2, x3 ||| y3, w0.drew, rfl, by omega, rfl, hsz, ?_⟩
        obtain ⟨h0, h1, h2, h3⟩ := HR.out
        exact ⟨h0, h1, h2, by rw [h3]; rfl, HB.out.drew⟩
      case measure => simp [intOf]
    · subst hq
      have HR := hidden (And.intro h0 (And.intro h1 (And.intro h2 h3)))
      clear h0 h1 h2 h3 H hbl
      go_wp2_with fail
      refine bodyPost_ret (v := .agg #[.int .u64 x0, .int .u64 x1, .int .u64 x2, .int .u64 x3]) (by simp [results, Try.results29, go_sem, hsz]) rfl ?_
      refine ⟨?_, ((HB.out.alloc (by omega) _).alloc (by simp; omega) _).alloc (by simp; omega) _⟩
      obtain ⟨h0, h1, h2, h3⟩ := HR.out
      obtain ⟨rfl, rfl, rfl, rfl⟩ := Y.out
      rw [h0, h1, h2, h3]
      simp only [sofar, if_pos (show 0 < 4 by decide), if_pos (show 1 < 4 by decide), if_pos (show 2 < 4 by decide), if_pos (show 3 < 4 by decide), word_or]
      rfl

theorem Arr.new (w : World) (x0 x1 x2 x3 : Nat) : Arr (w.alloc (.cells #[.int .u64 x0, .int .u64 x1, .int .u64 x2, .int .u64 x3] 35)) w.heap.size x0 x1 x2 x3 := by
  show (w.heap.push _)[w.heap.size]? = _
  exact Array.getElem?_push_size

theorem u64_not (x : Nat) (h : x < 18446744073709551616) : bits .xor .u64 IntKind.u64.max (x : Int) = ((18446744073709551615 - x : Nat) : Int) := by
  have e : IntKind.u64.max = ((18446744073709551615 : Nat) : Int) := by decide
  rw [e, u64_xor_nat _ _ (by decide) h]
  congr 1
  apply Nat.eq_of_testBit_eq
  intro i
  have h1 := Nat.testBit_two_pow_sub_succ (n := 64) (x := x) (by simpa using h) i
  rw [show 2 ^ 64 - (x + 1) = 18446744073709551615 - x by omega] at h1
  have h2 := Nat.testBit_two_pow_sub_one 64 i
  rw [show 2 ^ 64 - 1 = 18446744073709551615 by decide] at h2
  rw [Nat.testBit_xor, h1, h2]
  by_cases hi : i < 64
  · simp [hi]
  · have : x.testBit i = false := Nat.testBit_lt_two_pow (Nat.lt_of_lt_of_le (by simpa using h) (Nat.pow_le_pow_right (by decide) (by omega : 64 ≤ i)))
    simp [hi, this]

set_option maxHeartbeats 2000000 in
theorem others_any (f : Bs) (w : World) :
    Calls Try.prog 16 #[setV f] w fun e w' => e = .returned (setV (notB f)) ∧ Below w.heap.size w w' := by
  unfold setV
  go_enter Try.func16, Try.ntmps16
  go_wp2_with fail
  go_loopw [4] (fun i wr => ∃ (k x0 x1 x2 x3 : Nat) (w0 : World), i = .int .i64 k ∧ k ≤ 4 ∧ wr = (w0.alloc (.cells #[.int .u64 x0, .int .u64 x1, .int .u64 x2, .int .u64 x3] 35)).alloc (.cells #[Value.int IntKind.u64 0, Value.int IntKind.u64 0, Value.int IntKind.u64 0, Value.int IntKind.u64 0] 35) ∧ w.heap.size = w0.heap.size ∧ Hid (x0 = sofar k 0 (18446744073709551615 - word f 0) (word f 0) ∧ x1 = sofar k 1 (18446744073709551615 - word f 1) (word f 1) ∧ x2 = sofar k 2 (18446744073709551615 - word f 2) (word f 2) ∧ x3 = sofar k 3 (18446744073709551615 - word f 3) (word f 3) ∧ Below w.heap.size w w0))
    (fun i _ => 4 - (intOf i).toNat)
  case atStart => exact ⟨0, _, _, _, _, w, rfl, by omega, rfl, rfl, rfl, rfl, rfl, rfl, Below.refl _ _⟩
  case round =>
    obtain ⟨k, x0, x1, x2, x3, w0, rfl, hk, rfl, hsz, H⟩ := hrel
    obtain ⟨h0, h1, h2, h3, hbl⟩ := H.out
    have HB := hidden hbl
    rcases (by omega : k = 0 ∨ k = 1 ∨ k = 2 ∨ k = 3 ∨ k = 4) with hq | hq | hq | hq | hq
    · subst hq
      have hx : x0 < 18446744073709551616 := by rw [h0]; exact word_lt _ _
      have hno := u64_not x0 hx
      have hno2 : bits BinOp.xor IntKind.u64 (if IntKind.u64.signed = true then -1 else IntKind.u64.max) (x0 : Int) = ((18446744073709551615 - x0 : Nat) : Int) := hno
      have HR := hidden (And.intro h0 (And.intro h1 (And.intro h2 h3)))
      clear h0 h1 h2 h3 H hbl
      go_wp2_with fail
      go_roundw
      case rel =>
        refine ⟨1, 18446744073709551615 - x0, x1, x2, x3, w0, rfl, by omega, rfl, hsz, ?_⟩
        obtain ⟨h0, h1, h2, h3⟩ := HR.out
        exact ⟨by rw [h0]; rfl, h1, h2, h3, HB.out⟩
      case measure => simp [intOf]
    · subst hq
      have hx : x1 < 18446744073709551616 := by rw [h1]; exact word_lt _ _
      have hno := u64_not x1 hx
      have hno2 : bits BinOp.xor IntKind.u64 (if IntKind.u64.signed = true then -1 else IntKind.u64.max) (x1 : Int) = ((18446744073709551615 - x1 : Nat) : Int) := hno
      have HR := hidden (And.intro h0 (And.intro h1 (And.intro h2 h3)))
      clear h0 h1 h2 h3 H hbl
      go_wp2_with fail
      go_roundw
      case rel =>
        refine ⟨2, x0, 18446744073709551615 - x1, x2, x3, w0, rfl, by omega, rfl, hsz, ?_⟩
        obtain ⟨h0, h1, h2, h3⟩ := HR.out
        exact ⟨h0, by rw [h1]; rfl, h2, h3, HB.out⟩
      case measure => simp [intOf]
    · subst hq
      have hx : x2 < 18446744073709551616 := by rw [h2]; exact word_lt _ _
      have hno := u64_not x2 hx
      have hno2 : bits BinOp.xor IntKind.u64 (if IntKind.u64.signed = true then -1 else IntKind.u64.max) (x2 : Int) = ((18446744073709551615 - x2 : Nat) : Int) := hno
      have HR := hidden (And.intro h0 (And.intro h1 (And.intro h2 h3)))
      clear h0 h1 h2 h3 H hbl
      go_wp2_with fail
      go_roundw
      case rel =>
        refine ⟨3, x0, x1, 18446744073709551615 - x2, x3, w0, rfl, by omega, rfl, hsz, ?_⟩
        obtain ⟨h0, h1, h2, h3⟩ := HR.out
        exact ⟨h0, h1, by rw [h2]; rfl, h3, HB.out⟩
      case measure => simp [intOf]
    · subst hq
      have hx : x3 < 18446744073709551616 := by rw [h3]; exact word_lt _ _
      have hno := u64_not x3 hx
      have hno2 : bits BinOp.xor IntKind.u64 (if IntKind.u64.signed = true then -1 else IntKind.u64.max) (x3 : Int) = ((18446744073709551615 - x3 : Nat) : Int) := hno
      have HR := hidden (And.intro h0 (And.intro h1 (And.intro h2 h3)))
      clear h0 h1 h2 h3 H hbl
      go_wp2_with fail
      go_roundw
      case rel =>
        refine ⟨4, x0, x1, x2, 18446744073709551615 - x3, w0, rfl, by omega, rfl, hsz, ?_⟩
        obtain ⟨h0, h1, h2, h3⟩ := HR.out
        exact ⟨h0, h1, h2, by rw [h3]; rfl, HB.out⟩
      case measure => simp [intOf]
    · subst hq
      have HR := hidden (And.intro h0 (And.intro h1 (And.intro h2 h3)))
      clear h0 h1 h2 h3 H hbl
      go_wp2_with fail
      refine bodyPost_ret (v := .agg #[.int .u64 x0, .int .u64 x1, .int .u64 x2, .int .u64 x3]) (by simp [results, Try.results16, go_sem, hsz]) rfl ?_
      refine ⟨?_, (HB.out.alloc (by omega) _).alloc (by simp; omega) _⟩
      obtain ⟨h0, h1, h2, h3⟩ := HR.out
      rw [h0, h1, h2, h3]
      simp only [sofar, if_pos (show 0 < 4 by decide), if_pos (show 1 < 4 by decide), if_pos (show 2 < 4 by decide), if_pos (show 3 < 4 by decide), word_not]
      rfl

theorem word_but_same (f : Bs) (c : Nat) : word f (c / 64) &&& (18446744073709551615 - 2 ^ (c % 64)) = word (butB f c) (c / 64) := by
  have h := word_andNot f (fun d => d == c) (c / 64)
  have e : word (fun d => d == c) (c / 64) = 2 ^ (c % 64) := by
    have := word_put (fun _ => false) c
    rw [word_none, Nat.zero_or] at this
    rw [this]
    apply word_ext
    intro d
    simp
  rw [e] at h
  rw [h]
  apply word_ext
  intro d
  rfl
theorem word_but_far (f : Bs) (c k : Nat) (h : k ≠ c / 64) : word (butB f c) k = word f k := by
  apply Nat.eq_of_testBit_eq
  intro i
  rw [word_bit, word_bit]
  by_cases hi : i < 64
  · have : ¬ 64 * k + i = c := by omega
    simp [hi, this, butB]
  · simp [hi]
theorem andNot_put (x k : Nat) (h : x < 18446744073709551616) : bits .andNot .u64 (x : Int) (IntKind.u64.wrap (2 ^ (k % 64))) = ((x &&& (18446744073709551615 - 2 ^ (k % 64)) : Nat) : Int) := by
  have hp : 2 ^ (k % 64) < 18446744073709551616 := Nat.lt_of_lt_of_le (Nat.pow_lt_pow_right (by decide) (Nat.mod_lt k (by decide : 64 > 0))) (by decide)
  have := u64_andNot_nat x (2 ^ (k % 64)) h hp
  have e : IntKind.u64.wrap (2 ^ (k % 64)) = ((2 ^ (k % 64) : Nat) : Int) := by
    rw [IntKind.wrap_u64, show ((2 : Int) ^ (k % 64)) = ((2 ^ (k % 64) : Nat) : Int) by rw [Int.natCast_pow]; rfl]
    generalize 2 ^ (k % 64) = y at hp
    omega
  rw [e]
  exact this

set_option maxHeartbeats 2000000 in
theorem without_any (f : Bs) (c : UInt8) (w : World) :
    Calls Try.prog 17 #[setV f, .int .u8 c.toNat] w fun e w' => e = .returned (setV (butB f c.toNat)) ∧ Below w.heap.size w w' := by
  have hc : c.toNat < 256 := c.toNat_lt
  obtain ⟨n, hn⟩ : ∃ n, n = c.toNat := ⟨_, rfl⟩
  rw [← hn] at hc ⊢
  clear hn
  have hw0 := word_lt f 0
  have hw1 := word_lt f 1
  have hw2 := word_lt f 2
  have hw3 := word_lt f 3
  obtain ⟨x0, hx0⟩ : ∃ x, x = word f 0 := ⟨_, rfl⟩
  obtain ⟨x1, hx1⟩ : ∃ x, x = word f 1 := ⟨_, rfl⟩
  obtain ⟨x2, hx2⟩ : ∃ x, x = word f 2 := ⟨_, rfl⟩
  obtain ⟨x3, hx3⟩ : ∃ x, x = word f 3 := ⟨_, rfl⟩
  have HR := hidden (And.intro hx0 (And.intro hx1 (And.intro hx2 hx3)))
  unfold setV
  rw [← hx0, ← hx1, ← hx2, ← hx3]
  rw [← hx0] at hw0
  rw [← hx1] at hw1
  rw [← hx2] at hw2
  rw [← hx3] at hw3
  clear hx0 hx1 hx2 hx3
  rcases (by omega : n / 64 = 0 ∨ n / 64 = 1 ∨ n / 64 = 2 ∨ n / 64 = 3) with hq | hq | hq | hq
  · have ha := andNot_put x0 n hw0
    go_enter Try.func17, Try.ntmps17
    go_wp2
    refine bodyPost_ret (v := .agg #[.int .u64 (x0 &&& (18446744073709551615 - 2 ^ (n % 64)) : Nat), .int .u64 x1, .int .u64 x2, .int .u64 x3]) (by simp [results, Try.results17, go_sem]) rfl ?_
    refine ⟨?_, ((Below.refl _ w).alloc (Nat.le_refl _) _).alloc (by simp) _⟩
    have hs := word_but_same f n
    rw [hq] at hs
    obtain ⟨rfl, rfl, rfl, rfl⟩ := HR.out
    rw [word_but_far f n 1 (by omega), word_but_far f n 2 (by omega), word_but_far f n 3 (by omega), ← hs]
  · have ha := andNot_put x1 n hw1
    go_enter Try.func17, Try.ntmps17
    go_wp2
    refine bodyPost_ret (v := .agg #[.int .u64 x0, .int .u64 (x1 &&& (18446744073709551615 - 2 ^ (n % 64)) : Nat), .int .u64 x2, .int .u64 x3]) (by simp [results, Try.results17, go_sem]) rfl ?_
    refine ⟨?_, ((Below.refl _ w).alloc (Nat.le_refl _) _).alloc (by simp) _⟩
    have hs := word_but_same f n
    rw [hq] at hs
    obtain ⟨rfl, rfl, rfl, rfl⟩ := HR.out
    rw [word_but_far f n 0 (by omega), word_but_far f n 2 (by omega), word_but_far f n 3 (by omega), ← hs]
  · have ha := andNot_put x2 n hw2
    go_enter Try.func17, Try.ntmps17
    go_wp2
    refine bodyPost_ret (v := .agg #[.int .u64 x0, .int .u64 x1, .int .u64 (x2 &&& (18446744073709551615 - 2 ^ (n % 64)) : Nat), .int .u64 x3]) (by simp [results, Try.results17, go_sem]) rfl ?_
    refine ⟨?_, ((Below.refl _ w).alloc (Nat.le_refl _) _).alloc (by simp) _⟩
    have hs := word_but_same f n
    rw [hq] at hs
    obtain ⟨rfl, rfl, rfl, rfl⟩ := HR.out
    rw [word_but_far f n 0 (by omega), word_but_far f n 1 (by omega), word_but_far f n 3 (by omega), ← hs]
  · have ha := andNot_put x3 n hw3
    go_enter Try.func17, Try.ntmps17
    go_wp2
    refine bodyPost_ret (v := .agg #[.int .u64 x0, .int .u64 x1, .int .u64 x2, .int .u64 (x3 &&& (18446744073709551615 - 2 ^ (n % 64)) : Nat)]) (by simp [results, Try.results17, go_sem]) rfl ?_
    refine ⟨?_, ((Below.refl _ w).alloc (Nat.le_refl _) _).alloc (by simp) _⟩
    have hs := word_but_same f n
    rw [hq] at hs
    obtain ⟨rfl, rfl, rfl, rfl⟩ := HR.out
    rw [word_but_far f n 0 (by omega), word_but_far f n 1 (by omega), word_but_far f n 2 (by omega), ← hs]

/-- a text as a value -/
def S (x : Tx) : Value := .string ⟨x.toArray⟩
theorem S_data (s : ByteArray) : S s.data.toList = .string s := by rw [S, Lib.mk_data]
/-- a byte of a text, as the walk says it -/
theorem byte_at (p : Tx) (k : Nat) (h : k < (⟨p.toArray⟩ : ByteArray).size) : (⟨p.toArray⟩ : ByteArray)[k]'h = p.getD k 0 := by
  have h' : k < p.length := by rw [show (⟨p.toArray⟩ : ByteArray).size = p.length from by show p.toArray.size = _; simp] at h; exact h
  rw [List.getD_eq_getElem?_getD, List.getElem?_eq_getElem h']
  rfl
theorem byte_ne {c : UInt8} {n : Nat} (h : ¬ c = UInt8.ofNat n) : ¬ (c.toNat : Int) = n := by
  intro e
  apply h
  have e2 : c.toNat = n := by exact_mod_cast e
  rw [← e2, UInt8.ofNat_toNat]

end Go.Proofs.Ythjhihpbilaifaa
