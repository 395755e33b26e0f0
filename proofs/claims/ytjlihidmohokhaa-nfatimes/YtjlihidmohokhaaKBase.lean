/-
  What is about memory, lists and nodes, whatever the program; no conditions.
-/
import Derived.WalkKit
import Derived.WalkSpells
import Derived.WalkLawsBesides
import Derived.OwnWalk
import Derived.BigQuiet
import Derived.Deep.QuietTactic
import Derived.Deep.Cut
import Derived.Maps.AppendAt
import Derived.Deep.AppendLies
import Derived.WalkSmall
import Derived.Sort.AtCall
import Derived.Test.YtjlihidmohokhaaProg
import Derived.Test.YtjlihidmohokhaaEPlain
namespace Go.Proofs.Ytjlihidmohokhaa
open Go.RowKit Go.Proofs.Ytjlihidmohokhaa.Gl

theorem hidden {p : Prop} (h : p) : Hid p := h
theorem ret_int {k : IntKind} {a b : Int} (h : a = b) : Ending.returned (.int k a) = .returned (.int k b) := by rw [h]
theorem ret_bool {a b : Bool} (h : a = b) : Ending.returned (.bool a) = .returned (.bool b) := by rw [h]
/-- a set as a value -/
def setV (f : Bs) : Value := .agg #[.int .u64 (word f 0), .int .u64 (word f 1), .int .u64 (word f 2), .int .u64 (word f 3)]
theorem words_at (f : Bs) (k : Nat) (h : k < 4) : [Value.int .u64 (word f 0), Value.int .u64 (word f 1), Value.int .u64 (word f 2), Value.int .u64 (word f 3)][k]? = some (.int .u64 (word f k)) := by
  rcases (by omega : k = 0 ∨ k = 1 ∨ k = 2 ∨ k = 3) with rfl | rfl | rfl | rfl <;> rfl
theorem upTo_none' (m i : Nat) : word (fun c => decide (m ≤ c) && decide (c < m)) i = 0 := by
  rw [← word_none i]
  apply word_ext
  intro c
  rw [Bool.eq_iff_iff]
  simp
/-- from one byte on, up to another -/
def upTo (m k : Nat) : Bs := fun c => decide (m ≤ c) && decide (c < k)
theorem upTo_none (m i : Nat) : word (upTo m m) i = 0 := upTo_none' m i
theorem upTo_done {m k n : Nat} (h : k = m ∨ k ≤ n + 1) (h2 : ¬ k ≤ n) (i : Nat) : word (upTo m k) i = word (spn m n) i := by
  apply word_ext
  intro c
  unfold upTo spn
  rw [Bool.eq_iff_iff]
  simp
  omega
theorem upTo_more {m k : Nat} (h : m ≤ k) (i : Nat) : word (upTo m (k + 1)) i = if i = k / 64 then word (upTo m k) i ||| 2 ^ (k % 64) else word (upTo m k) i := by
  have e : upTo m (k + 1) = fun d => upTo m k d || d == k := by
    funext d
    unfold upTo
    rw [Bool.eq_iff_iff]
    simp
    omega
  rw [e]
  split
  · rename_i h; subst h; exact (word_put _ _).symm
  · rename_i h; exact word_far _ _ _ h
theorem or_put (x k : Nat) (h : x < 18446744073709551616) : bits .or .u64 (x : Int) (IntKind.u64.wrap (2 ^ (k % 64))) = ((x ||| 2 ^ (k % 64) : Nat) : Int) := by
  have hp : 2 ^ (k % 64) < 18446744073709551616 := Nat.lt_of_lt_of_le (Nat.pow_lt_pow_right (by decide) (Nat.mod_lt k (by decide : 64 > 0))) (by decide)
  have := u64_or_nat x (2 ^ (k % 64)) h hp
  have e : IntKind.u64.wrap (2 ^ (k % 64)) = ((2 ^ (k % 64) : Nat) : Int) := by
    rw [IntKind.wrap_u64, show ((2 : Int) ^ (k % 64)) = ((2 ^ (k % 64) : Nat) : Int) by rw [Int.natCast_pow]; rfl]
    generalize 2 ^ (k % 64) = y at hp
    omega
  rw [e]
  exact this
/-- what is done so far, word by word -/
def sofar (k i a b : Nat) : Nat := if i < k then a else b
theorem u64_not (x : Nat) (h : x < 18446744073709551616) : bits .xor .u64 IntKind.u64.max (x : Int) = ((18446744073709551615 - x : Nat) : Int) := by
  have e : IntKind.u64.max = ((18446744073709551615 : Nat) : Int) := by decide
  rw [e, u64_xor_nat _ _ (by decide) h]
  congr 1
  apply Nat.eq_of_testBit_eq
  intro i
  have h1 := Nat.testBit_two_pow_sub_succ (n := 64) (x := x) (by simpa using h) i
  rw [show 2 ^ 64 - (x + 1) = 18446744073709551615 - x by omega] at h1
  have h2 := Nat.testBit_two_pow_sub_one 64 i
  rw [show 2 ^ 64 - 1 = 18446744073709551615 by decide] at h2
  rw [Nat.testBit_xor, h1, h2]
  by_cases hi : i < 64
  · simp [hi]
  · have : x.testBit i = false := Nat.testBit_lt_two_pow (Nat.lt_of_lt_of_le (by simpa using h) (Nat.pow_le_pow_right (by decide) (by omega : 64 ≤ i)))
    simp [hi, this]
theorem word_but_same (f : Bs) (c : Nat) : word f (c / 64) &&& (18446744073709551615 - 2 ^ (c % 64)) = word (butB f c) (c / 64) := by
  have h := word_andNot f (fun d => d == c) (c / 64)
  have e : word (fun d => d == c) (c / 64) = 2 ^ (c % 64) := by
    have := word_put (fun _ => false) c
    rw [word_none, Nat.zero_or] at this
    rw [this]
    apply word_ext
    intro d
    simp
  rw [e] at h
  rw [h]
  apply word_ext
  intro d
  rfl
theorem word_but_far (f : Bs) (c k : Nat) (h : k ≠ c / 64) : word (butB f c) k = word f k := by
  apply Nat.eq_of_testBit_eq
  intro i
  rw [word_bit, word_bit]
  by_cases hi : i < 64
  · have : ¬ 64 * k + i = c := by omega
    simp [hi, this, butB]
  · simp [hi]
theorem andNot_put (x k : Nat) (h : x < 18446744073709551616) : bits .andNot .u64 (x : Int) (IntKind.u64.wrap (2 ^ (k % 64))) = ((x &&& (18446744073709551615 - 2 ^ (k % 64)) : Nat) : Int) := by
  have hp : 2 ^ (k % 64) < 18446744073709551616 := Nat.lt_of_lt_of_le (Nat.pow_lt_pow_right (by decide) (Nat.mod_lt k (by decide : 64 > 0))) (by decide)
  have := u64_andNot_nat x (2 ^ (k % 64)) h hp
  have e : IntKind.u64.wrap (2 ^ (k % 64)) = ((2 ^ (k % 64) : Nat) : Int) := by
    rw [IntKind.wrap_u64, show ((2 : Int) ^ (k % 64)) = ((2 ^ (k % 64) : Nat) : Int) by rw [Int.natCast_pow]; rfl]
    generalize 2 ^ (k % 64) = y at hp
    omega
  rw [e]
  exact this
/-- a text as a value -/
def S (x : Tx) : Value := .string ⟨x.toArray⟩
theorem S_data (s : ByteArray) : S s.data.toList = .string s := by rw [S, Lib.mk_data]
/-- a byte of a text, as the walk says it -/
theorem byte_at (p : Tx) (k : Nat) (h : k < (⟨p.toArray⟩ : ByteArray).size) : (⟨p.toArray⟩ : ByteArray)[k]'h = p.getD k 0 := by
  have h' : k < p.length := by rw [show (⟨p.toArray⟩ : ByteArray).size = p.length from by show p.toArray.size = _; simp] at h; exact h
  rw [List.getD_eq_getElem?_getD, List.getElem?_eq_getElem h']
  rfl
theorem byte_ne {c : UInt8} {n : Nat} (h : ¬ c = UInt8.ofNat n) : ¬ (c.toNat : Int) = n := by
  intro e
  apply h
  have e2 : c.toNat = n := by exact_mod_cast e
  rw [← e2, UInt8.ofNat_toNat]
/-- may a sign be escaped? -/
def eOne : Bool := false
theorem ext_text (p : Tx) (a b : Nat) : (⟨p.toArray⟩ : ByteArray).extract a b = ⟨((p.drop a).take (b - a)).toArray⟩ := by
  apply ByteArray.ext
  rw [ByteArray.data_extract]
  simp
theorem set_alpha : setV alpha = .agg #[.int .u64 0, .int .u64 576460743847706622, .int .u64 0, .int .u64 0] := by
  unfold setV
  rw [show word alpha 0 = 0 by decide +kernel, show word alpha 1 = 576460743847706622 by decide +kernel, show word alpha 2 = 0 by decide +kernel, show word alpha 3 = 0 by decide +kernel]
  rfl
theorem set_digit : setV digit = .agg #[.int .u64 287948901175001088, .int .u64 0, .int .u64 0, .int .u64 0] := by
  unfold setV
  rw [show word digit 0 = 287948901175001088 by decide +kernel, show word digit 1 = 0 by decide +kernel, show word digit 2 = 0 by decide +kernel, show word digit 3 = 0 by decide +kernel]
  rfl
theorem set_upper : setV upper = .agg #[.int .u64 0, .int .u64 134217726, .int .u64 0, .int .u64 0] := by
  unfold setV
  rw [show word upper 0 = 0 by decide +kernel, show word upper 1 = 134217726 by decide +kernel, show word upper 2 = 0 by decide +kernel, show word upper 3 = 0 by decide +kernel]
  rfl
theorem set_lower : setV lower = .agg #[.int .u64 0, .int .u64 576460743713488896, .int .u64 0, .int .u64 0] := by
  unfold setV
  rw [show word lower 0 = 0 by decide +kernel, show word lower 1 = 576460743713488896 by decide +kernel, show word lower 2 = 0 by decide +kernel, show word lower 3 = 0 by decide +kernel]
  rfl
theorem set_alnum : setV alnum = .agg #[.int .u64 287948901175001088, .int .u64 576460743847706622, .int .u64 0, .int .u64 0] := by
  unfold setV
  rw [show word alnum 0 = 287948901175001088 by decide +kernel, show word alnum 1 = 576460743847706622 by decide +kernel, show word alnum 2 = 0 by decide +kernel, show word alnum 3 = 0 by decide +kernel]
  rfl
theorem set_space : setV space = .agg #[.int .u64 4294983168, .int .u64 0, .int .u64 0, .int .u64 0] := by
  unfold setV
  rw [show word space 0 = 4294983168 by decide +kernel, show word space 1 = 0 by decide +kernel, show word space 2 = 0 by decide +kernel, show word space 3 = 0 by decide +kernel]
  rfl
theorem set_none : setV none_ = .agg #[.int .u64 0, .int .u64 0, .int .u64 0, .int .u64 0] := by
  unfold setV
  rw [show word none_ 0 = 0 from word_none 0, show word none_ 1 = 0 from word_none 1, show word none_ 2 = 0 from word_none 2, show word none_ 3 = 0 from word_none 3]
  rfl
theorem classSet_of {t : Tx} (h : classOf t = none) : classSet t = none_ := by unfold classSet; rw [h]; rfl
/-- Read's answer as a value -/
def setAns (at_ : Nat) : Option (Bs × Nat) → Value
  | some r => .tuple #[setV r.1, .int .i64 (at_ + r.2 : Nat), .bool true]
  | none => .tuple #[setV none_, .int .i64 0, .bool false]
/-- the three answers of a reading -/
def R3 (r : Int × Int × Int) : Value := .tuple #[.int .i64 r.1, .int .i64 r.2.1, .int .i64 r.2.2]
theorem get_data (s : ByteArray) (k : Nat) (h : k < s.size) : s.data.toList[k]? = some s[k] := by
  rw [List.getElem?_eq_getElem (by rw [← Lib.size_eq]; exact h)]; rfl
theorem read_none {l : Tx} {a : Nat} (hd : ds (l.drop a) = []) : Gl.read l a = (0, 0, 2) := by
  rw [Gl.read, if_pos hd]
theorem read_big {l : Tx} {a : Nat} (hd : ds (l.drop a) ≠ []) (hb : 2147483648 < rd (ds (l.drop a))) : Gl.read l a = (0, 0, 4) := by
  rw [Gl.read, if_neg hd, if_pos hb]
theorem read_good {l : Tx} {a : Nat} (hd : ds (l.drop a) ≠ []) (hb : ¬ 2147483648 < rd (ds (l.drop a))) : Gl.read l a = ((rd (ds (l.drop a)) : Int), (a : Int) + (ds (l.drop a)).length, 0) := by
  rw [Gl.read, if_neg hd, if_neg hb]
theorem loop_step {l : List UInt8} {m j k R L : Nat} {b : UInt8} (h : ds (l.drop j) = b :: ds (l.drop (j + 1))) (hf : (ds (l.drop j)).foldl st m = R) (hl : j + (ds (l.drop j)).length = k + L) :
    (ds (l.drop (j + 1))).foldl st (st m b) = R ∧ (j + 1) + (ds (l.drop (j + 1))).length = k + L := by
  rw [h] at hf hl
  refine ⟨hf, ?_⟩
  rw [List.length_cons] at hl; omega
theorem st_small {m : Nat} {b : UInt8} (h1 : 48 ≤ b.toNat) (h : (m : Int) * 10 + ((b.toNat : Int) - 48) ≤ 2147483649) : ((st m b : Nat) : Int) = (m : Int) * 10 + ((b.toNat : Int) - 48) := by unfold st; omega
theorem st_great {m : Nat} {b : UInt8} (h1 : 48 ≤ b.toNat) (h : 2147483649 < (m : Int) * 10 + ((b.toNat : Int) - 48)) : ((st m b : Nat) : Int) = 2147483649 := by unfold st; omega
/-- readCount's answer as a value -/
def countAns (k : Nat) : Option (Nat × Nat) → Value
  | some r => .tuple #[.int .i64 r.1, .int .i64 (k + r.2 : Nat), .bool true]
  | none => .tuple #[.int .i64 0, .int .i64 0, .bool false]
/-- readTimes' answer as a value -/
def timesAns (k : Nat) : Option (Nat × Int × Nat) → Value
  | some r => .tuple #[.int .i64 r.1, .int .i64 r.2.1, .int .i64 (k + r.2.2 : Nat), .bool true]
  | none => .tuple #[.int .i64 0, .int .i64 0, .int .i64 0, .bool false]
theorem getD_byte (p : Tx) (k : Nat) : (p.drop k).getD 0 0 = p.getD k 0 := by rw [drop_getD]; rfl
theorem getD_out {p : Tx} {k : Nat} (h : p.length ≤ k) : p.getD k 0 = 0 := by
  rw [List.getD_eq_getElem?_getD, List.getElem?_eq_none h]; rfl
/-- a node as a value -/
def nodeV (k : Int) (f : Bs) (kv : Value) (lo hi : Int) : Value :=
  .agg #[.int .i64 k, .int .u64 (word f 0), .int .u64 (word f 1), .int .u64 (word f 2), .int .u64 (word f 3), kv, .int .i64 lo, .int .i64 hi]
def zeroV : Value := .agg #[.int .i64 0, .int .u64 0, .int .u64 0, .int .u64 0, .int .u64 0, .slice none 0 0, .int .i64 0, .int .i64 0]
/-- eight cells of a block are a node's -/
def NodeCells (w : World) (b o : Nat) (v : Value) : Prop :=
  ∃ c0 c1 c2 c3 c4 c5 c6 c7, v = .agg #[c0, c1, c2, c3, c4, c5, c6, c7] ∧ w.cell? ⟨b, o, none⟩ = some c0 ∧ w.cell? ⟨b, o + 1, none⟩ = some c1 ∧ w.cell? ⟨b, o + 2, none⟩ = some c2 ∧ w.cell? ⟨b, o + 3, none⟩ = some c3 ∧ w.cell? ⟨b, o + 4, none⟩ = some c4 ∧ w.cell? ⟨b, o + 5, none⟩ = some c5 ∧ w.cell? ⟨b, o + 6, none⟩ = some c6 ∧ w.cell? ⟨b, o + 7, none⟩ = some c7
/-- a node lies in memory, in blocks of which A holds -/
inductive NodeAt (w : World) (A : Nat → Prop) : Value → Nd → Prop
  | mk (k : Int) (f : Bs) (kids : List Nd) (lo hi : Int) (a : Option Addr) (cap : Nat) (vs : List Value) (hn : vs.length = kids.length) (hcap : kids.length ≤ cap)
    (hcells : kids ≠ [] → ∃ b o, a = some ⟨b, o, none⟩ ∧ A b ∧ ∀ (j : Nat) v, vs[j]? = some v → NodeCells w b (o + j * 8) v)
    (hkids : ∀ (j : Nat) v d, vs[j]? = some v → kids[j]? = some d → NodeAt w A v d) : NodeAt w A (nodeV k f (.slice a kids.length cap) lo hi) (.mk k f kids lo hi)
/-- a list of nodes lies in memory -/
def KidsAt (w : World) (A : Nat → Prop) (kv : Value) (kids : List Nd) : Prop :=
  ∃ (a : Option Addr) (cap : Nat) (vs : List Value), kv = .slice a kids.length cap ∧ vs.length = kids.length ∧ kids.length ≤ cap ∧ (kids ≠ [] → ∃ b o, a = some ⟨b, o, none⟩ ∧ A b ∧ ∀ (j : Nat) v, vs[j]? = some v → NodeCells w b (o + j * 8) v) ∧ ∀ (j : Nat) v d, vs[j]? = some v → kids[j]? = some d → NodeAt w A v d
theorem NodeAt.open {w : World} {A : Nat → Prop} {v : Value} {k : Int} {f : Bs} {kids : List Nd} {lo hi : Int} (h : NodeAt w A v (.mk k f kids lo hi)) : ∃ kv, v = nodeV k f kv lo hi ∧ KidsAt w A kv kids := by
  cases h with
  | mk _ _ _ _ _ a cap vs hn hcap hcells hkids => exact ⟨_, rfl, _, _, _, rfl, hn, hcap, hcells, hkids⟩
theorem KidsAt.shut {w : World} {A : Nat → Prop} {kv : Value} {kids : List Nd} (h : KidsAt w A kv kids) (k : Int) (f : Bs) (lo hi : Int) : NodeAt w A (nodeV k f kv lo hi) (.mk k f kids lo hi) := by
  obtain ⟨a, cap, vs, rfl, hn, hcap, hcells, hkids⟩ := h
  exact .mk k f kids lo hi a cap vs hn hcap hcells hkids
theorem KidsAt.nil (w : World) (A : Nat → Prop) : KidsAt w A (.slice none 0 0) [] :=
  ⟨none, 0, [], rfl, rfl, Nat.le_refl _, fun h => absurd rfl h, fun j v d h => by simp at h⟩
theorem NodeCells.keep {w w' : World} {b o : Nat} {v : Value} (h : NodeCells w b o v) (hb : w'.heap[b]? = w.heap[b]?) : NodeCells w' b o v := by
  obtain ⟨c0, c1, c2, c3, c4, c5, c6, c7, hv, h0, h1, h2, h3, h4, h5, h6, h7⟩ := h
  exact ⟨c0, c1, c2, c3, c4, c5, c6, c7, hv, (World.cell?_of_block (a := ⟨b, o, none⟩) hb).trans h0, (World.cell?_of_block (a := ⟨b, o + 1, none⟩) hb).trans h1, (World.cell?_of_block (a := ⟨b, o + 2, none⟩) hb).trans h2, (World.cell?_of_block (a := ⟨b, o + 3, none⟩) hb).trans h3, (World.cell?_of_block (a := ⟨b, o + 4, none⟩) hb).trans h4, (World.cell?_of_block (a := ⟨b, o + 5, none⟩) hb).trans h5, (World.cell?_of_block (a := ⟨b, o + 6, none⟩) hb).trans h6, (World.cell?_of_block (a := ⟨b, o + 7, none⟩) hb).trans h7⟩
theorem NodeCells.lt {w : World} {b o : Nat} {v : Value} (h : NodeCells w b o v) : b < w.heap.size := by
  obtain ⟨c0, c1, c2, c3, c4, c5, c6, c7, hv, h0, _⟩ := h
  exact World.block_lt_of_cell? w ⟨b, o, none⟩ h0
/-- nothing has turned where a node lies -/
theorem NodeAt.keep {w w' : World} {A A' : Nat → Prop} {v : Value} {d : Nd} (h : NodeAt w A v d) (hb : ∀ b, A b → b < w.heap.size → w'.heap[b]? = w.heap[b]? ∧ A' b) : NodeAt w' A' v d := by
  induction h with
  | mk k f kids lo hi a cap vs hn hcap hcells hkids ih =>
    refine .mk k f kids lo hi a cap vs hn hcap (fun hne => ?_) ih
    obtain ⟨b, o, ha, hA, hc⟩ := hcells hne
    have hlt : b < w.heap.size := by
      cases hv : vs[0]? with
      | none =>
        have := List.getElem?_eq_none_iff.1 hv
        exact absurd (List.eq_nil_of_length_eq_zero (by omega)) hne
      | some v0 => exact (hc 0 v0 hv).lt
    exact ⟨b, o, ha, (hb b hA hlt).2, fun j v hj => (hc j v hj).keep (hb b hA hlt).1⟩
theorem KidsAt.keep {w w' : World} {A A' : Nat → Prop} {v : Value} {l : List Nd} (h : KidsAt w A v l) (hb : ∀ b, A b → b < w.heap.size → w'.heap[b]? = w.heap[b]? ∧ A' b) : KidsAt w' A' v l := by
  obtain ⟨kv, hv, hk⟩ := (h.shut 0 none_ 0 0).keep hb |>.open
  have : v = kv := by
    unfold nodeV at hv
    injection hv with hv
    simp at hv
    exact hv
  rw [this]; exact hk
theorem NodeAt.later {w w' : World} {A : Nat → Prop} {v : Value} {d : Nd} (h : NodeAt w A v d) (hb : Below w.heap.size w w') : NodeAt w' A v d :=
  h.keep fun b hA hlt => ⟨hb.block b hlt, hA⟩
theorem KidsAt.later {w w' : World} {A : Nat → Prop} {v : Value} {d : List Nd} (h : KidsAt w A v d) (hb : Below w.heap.size w w') : KidsAt w' A v d :=
  h.keep fun b hA hlt => ⟨hb.block b hlt, hA⟩
/-! the reader's block -/
/-! blocks of one node -/
def Blk (w : World) (b : Nat) (c0 c1 c2 c3 c4 c5 c6 c7 : Value) : Prop := w.heap[b]? = some (.cells #[c0, c1, c2, c3, c4, c5, c6, c7] 26)
theorem Blk.cells {w : World} {b : Nat} {c0 c1 c2 c3 c4 c5 c6 c7 : Value} (h : Blk w b c0 c1 c2 c3 c4 c5 c6 c7) : w.cell? ⟨b, 0, none⟩ = some c0 ∧ w.cell? ⟨b, 1, none⟩ = some c1 ∧ w.cell? ⟨b, 2, none⟩ = some c2 ∧ w.cell? ⟨b, 3, none⟩ = some c3 ∧ w.cell? ⟨b, 4, none⟩ = some c4 ∧ w.cell? ⟨b, 5, none⟩ = some c5 ∧ w.cell? ⟨b, 6, none⟩ = some c6 ∧ w.cell? ⟨b, 7, none⟩ = some c7 := by
  unfold Blk at h
  simp [World.cell?, h]
theorem Blk.thawed {w : World} {b : Nat} {c0 c1 c2 c3 c4 c5 c6 c7 : Value} (h : Blk w b c0 c1 c2 c3 c4 c5 c6 c7) : w.frozen? ⟨b, 0, none⟩ = false ∧ w.frozen? ⟨b, 1, none⟩ = false ∧ w.frozen? ⟨b, 2, none⟩ = false ∧ w.frozen? ⟨b, 3, none⟩ = false ∧ w.frozen? ⟨b, 4, none⟩ = false ∧ w.frozen? ⟨b, 5, none⟩ = false ∧ w.frozen? ⟨b, 6, none⟩ = false ∧ w.frozen? ⟨b, 7, none⟩ = false := by
  unfold Blk at h
  simp [World.frozen?, h]
theorem Blk.lt {w : World} {b : Nat} {c0 c1 c2 c3 c4 c5 c6 c7 : Value} (h : Blk w b c0 c1 c2 c3 c4 c5 c6 c7) : b < w.heap.size := (Array.getElem?_eq_some_iff.1 h).1
theorem Blk.keep {w w' : World} {b : Nat} {c0 c1 c2 c3 c4 c5 c6 c7 : Value} (h : Blk w b c0 c1 c2 c3 c4 c5 c6 c7) (hb : w'.heap[b]? = w.heap[b]?) : Blk w' b c0 c1 c2 c3 c4 c5 c6 c7 := by unfold Blk; rw [hb]; exact h
theorem Blk.later {w w' : World} {b : Nat} {c0 c1 c2 c3 c4 c5 c6 c7 : Value} (h : Blk w b c0 c1 c2 c3 c4 c5 c6 c7) (hb : Below w.heap.size w w') : Blk w' b c0 c1 c2 c3 c4 c5 c6 c7 := h.keep (hb.block b h.lt)
theorem Blk.alloc {w : World} {b : Nat} {c0 c1 c2 c3 c4 c5 c6 c7 : Value} (h : Blk w b c0 c1 c2 c3 c4 c5 c6 c7) (ob : Obj) : Blk (w.alloc ob) b c0 c1 c2 c3 c4 c5 c6 c7 := h.later ((Below.refl _ w).alloc (Nat.le_refl _) ob)
theorem Blk.drew {w : World} {b : Nat} {c0 c1 c2 c3 c4 c5 c6 c7 : Value} (h : Blk w b c0 c1 c2 c3 c4 c5 c6 c7) : Blk w.drew b c0 c1 c2 c3 c4 c5 c6 c7 := h
theorem Blk.drewN {w : World} {b : Nat} {c0 c1 c2 c3 c4 c5 c6 c7 : Value} (h : Blk w b c0 c1 c2 c3 c4 c5 c6 c7) (n : Nat) : Blk (w.drewN n) b c0 c1 c2 c3 c4 c5 c6 c7 := h
theorem Blk.other {w : World} {b : Nat} {c0 c1 c2 c3 c4 c5 c6 c7 : Value} (h : Blk w b c0 c1 c2 c3 c4 c5 c6 c7) {g i : Nat} {v : Value} (hn : b ≠ g) : Blk (w.setCell ⟨g, i, none⟩ v) b c0 c1 c2 c3 c4 c5 c6 c7 := h.keep (heap_setCell_other w ⟨g, i, none⟩ b v hn)
theorem Blk.new (w : World) (c0 c1 c2 c3 c4 c5 c6 c7 : Value) : Blk (w.alloc (.cells #[c0, c1, c2, c3, c4, c5, c6, c7] 26)) w.heap.size c0 c1 c2 c3 c4 c5 c6 c7 := by
  show (w.heap.push _)[w.heap.size]? = _
  exact Array.getElem?_push_size
theorem Blk.newAt {w : World} {b : Nat} {c0 c1 c2 c3 c4 c5 c6 c7 : Value} (hb : b = w.heap.size) : Blk (w.alloc (.cells #[c0, c1, c2, c3, c4, c5, c6, c7] 26)) b c0 c1 c2 c3 c4 c5 c6 c7 := by subst hb; exact Blk.new w _ _ _ _ _ _ _ _
theorem Blk.put {w : World} {b : Nat} {c0 c1 c2 c3 c4 c5 c6 c7 : Value} (h : Blk w b c0 c1 c2 c3 c4 c5 c6 c7) (d0 d1 d2 d3 d4 d5 d6 d7 : Value) : Blk ((((((((w.setCell ⟨b, 0, none⟩ d0).setCell ⟨b, 1, none⟩ d1).setCell ⟨b, 2, none⟩ d2).setCell ⟨b, 3, none⟩ d3).setCell ⟨b, 4, none⟩ d4).setCell ⟨b, 5, none⟩ d5).setCell ⟨b, 6, none⟩ d6).setCell ⟨b, 7, none⟩ d7) b d0 d1 d2 d3 d4 d5 d6 d7 := by
  have h1 : (w.setCell ⟨b, 0, none⟩ d0).heap[b]? = some (.cells #[d0, c1, c2, c3, c4, c5, c6, c7] 26) := heap_setCell_same w b 0 _ 26 _ h
  have h2 : ((w.setCell ⟨b, 0, none⟩ d0).setCell ⟨b, 1, none⟩ d1).heap[b]? = some (.cells #[d0, d1, c2, c3, c4, c5, c6, c7] 26) := heap_setCell_same (w.setCell ⟨b, 0, none⟩ d0) b 1 _ 26 _ h1
  have h3 : (((w.setCell ⟨b, 0, none⟩ d0).setCell ⟨b, 1, none⟩ d1).setCell ⟨b, 2, none⟩ d2).heap[b]? = some (.cells #[d0, d1, d2, c3, c4, c5, c6, c7] 26) := heap_setCell_same ((w.setCell ⟨b, 0, none⟩ d0).setCell ⟨b, 1, none⟩ d1) b 2 _ 26 _ h2
  have h4 : ((((w.setCell ⟨b, 0, none⟩ d0).setCell ⟨b, 1, none⟩ d1).setCell ⟨b, 2, none⟩ d2).setCell ⟨b, 3, none⟩ d3).heap[b]? = some (.cells #[d0, d1, d2, d3, c4, c5, c6, c7] 26) := heap_setCell_same (((w.setCell ⟨b, 0, none⟩ d0).setCell ⟨b, 1, none⟩ d1).setCell ⟨b, 2, none⟩ d2) b 3 _ 26 _ h3
  have h5 : (((((w.setCell ⟨b, 0, none⟩ d0).setCell ⟨b, 1, none⟩ d1).setCell ⟨b, 2, none⟩ d2).setCell ⟨b, 3, none⟩ d3).setCell ⟨b, 4, none⟩ d4).heap[b]? = some (.cells #[d0, d1, d2, d3, d4, c5, c6, c7] 26) := heap_setCell_same ((((w.setCell ⟨b, 0, none⟩ d0).setCell ⟨b, 1, none⟩ d1).setCell ⟨b, 2, none⟩ d2).setCell ⟨b, 3, none⟩ d3) b 4 _ 26 _ h4
  have h6 : ((((((w.setCell ⟨b, 0, none⟩ d0).setCell ⟨b, 1, none⟩ d1).setCell ⟨b, 2, none⟩ d2).setCell ⟨b, 3, none⟩ d3).setCell ⟨b, 4, none⟩ d4).setCell ⟨b, 5, none⟩ d5).heap[b]? = some (.cells #[d0, d1, d2, d3, d4, d5, c6, c7] 26) := heap_setCell_same (((((w.setCell ⟨b, 0, none⟩ d0).setCell ⟨b, 1, none⟩ d1).setCell ⟨b, 2, none⟩ d2).setCell ⟨b, 3, none⟩ d3).setCell ⟨b, 4, none⟩ d4) b 5 _ 26 _ h5
  have h7 : (((((((w.setCell ⟨b, 0, none⟩ d0).setCell ⟨b, 1, none⟩ d1).setCell ⟨b, 2, none⟩ d2).setCell ⟨b, 3, none⟩ d3).setCell ⟨b, 4, none⟩ d4).setCell ⟨b, 5, none⟩ d5).setCell ⟨b, 6, none⟩ d6).heap[b]? = some (.cells #[d0, d1, d2, d3, d4, d5, d6, c7] 26) := heap_setCell_same ((((((w.setCell ⟨b, 0, none⟩ d0).setCell ⟨b, 1, none⟩ d1).setCell ⟨b, 2, none⟩ d2).setCell ⟨b, 3, none⟩ d3).setCell ⟨b, 4, none⟩ d4).setCell ⟨b, 5, none⟩ d5) b 6 _ 26 _ h6
  have h8 : ((((((((w.setCell ⟨b, 0, none⟩ d0).setCell ⟨b, 1, none⟩ d1).setCell ⟨b, 2, none⟩ d2).setCell ⟨b, 3, none⟩ d3).setCell ⟨b, 4, none⟩ d4).setCell ⟨b, 5, none⟩ d5).setCell ⟨b, 6, none⟩ d6).setCell ⟨b, 7, none⟩ d7).heap[b]? = some (.cells #[d0, d1, d2, d3, d4, d5, d6, d7] 26) := heap_setCell_same (((((((w.setCell ⟨b, 0, none⟩ d0).setCell ⟨b, 1, none⟩ d1).setCell ⟨b, 2, none⟩ d2).setCell ⟨b, 3, none⟩ d3).setCell ⟨b, 4, none⟩ d4).setCell ⟨b, 5, none⟩ d5).setCell ⟨b, 6, none⟩ d6) b 7 _ 26 _ h7
  exact h8
/-- all old blocks but the reader's stand as they stood -/
abbrev Gr (R : Nat) (w w' : World) : Prop := w.grownBy w' (some R)
theorem Gr.refl (R : Nat) (w : World) : Gr R w w := ⟨rfl, rfl, rfl, Nat.le_refl _, fun _ _ _ => rfl⟩
theorem Gr.tr {R : Nat} {a b c : World} (h : Gr R a b) (k : Gr R b c) : Gr R a c := World.grownBy.trans h k
theorem Gr.below {R : Nat} {w W W' : World} (h : Gr R w W) (hb : Below W.heap.size W W') : Gr R w W' :=
  ⟨hb.os.trans h.os, hb.tape.trans h.tape, hb.output.trans h.output, Nat.le_trans h.size hb.size, fun k hk hne => (hb.block k (Nat.lt_of_lt_of_le hk h.size)).trans (h.block k hk hne)⟩
theorem Gr.alloc {R : Nat} {w W : World} (h : Gr R w W) (o : Obj) : Gr R w (W.alloc o) := Gr.below h ((Below.refl _ W).alloc (Nat.le_refl _) o)
theorem Gr.drew {R : Nat} {w W : World} (h : Gr R w W) : Gr R w W.drew := ⟨h.os, h.tape, h.output, h.size, h.block⟩
theorem Gr.own {R : Nat} {w W : World} (h : Gr R w W) (i : Nat) (v : Value) : Gr R w (W.setCell ⟨R, i, none⟩ v) :=
  ⟨h.os, h.tape, h.output, by simpa [World.setCell] using h.size, fun k hk hne => (Below.heap_setCell W ⟨R, i, none⟩ v k (fun e => hne (by rw [e]))).trans (h.block k hk hne)⟩
theorem Gr.new {R : Nat} {w W : World} (h : Gr R w W) {b : Nat} (hb : w.heap.size ≤ b) (i : Nat) (v : Value) : Gr R w (W.setCell ⟨b, i, none⟩ v) :=
  ⟨h.os, h.tape, h.output, by simpa [World.setCell] using h.size, fun k hk hne => (Below.heap_setCell W ⟨b, i, none⟩ v k (by simp; omega)).trans (h.block k hk hne)⟩
theorem Gr.put {R : Nat} {w W : World} (h : Gr R w W) {b : Nat} (hb : w.heap.size ≤ b) (d0 d1 d2 d3 d4 d5 d6 d7 : Value) : Gr R w ((((((((W.setCell ⟨b, 0, none⟩ d0).setCell ⟨b, 1, none⟩ d1).setCell ⟨b, 2, none⟩ d2).setCell ⟨b, 3, none⟩ d3).setCell ⟨b, 4, none⟩ d4).setCell ⟨b, 5, none⟩ d5).setCell ⟨b, 6, none⟩ d6).setCell ⟨b, 7, none⟩ d7) :=
  (Gr.new (Gr.new (Gr.new (Gr.new (Gr.new (Gr.new (Gr.new (Gr.new h hb 0 _) hb 1 _) hb 2 _) hb 3 _) hb 4 _) hb 5 _) hb 6 _) hb 7 _)
theorem Gr.grown {R : Nat} {w W W' : World} {row : Option Nat} (h : Gr R w W) (hg : W.grownBy W' row) (hr : ∀ k, row = some k → w.heap.size ≤ k) : Gr R w W' :=
  ⟨hg.os.trans h.os, hg.tape.trans h.tape, hg.output.trans h.output, Nat.le_trans h.size hg.size, fun k hk hne => (hg.block k (Nat.lt_of_lt_of_le hk h.size) (fun e => by have := hr k e.symm; omega)).trans (h.block k hk hne)⟩
theorem Gr.toBelow {R B : Nat} {w W : World} (h : Gr R w W) (hB : B ≤ w.heap.size) (hR : B ≤ R) : Below B w W :=
  (Below.refl B w).grown h hB (fun k hk => by cases hk; exact hR)
/-- what was made behind the reader's block stays as it was while the reader goes on -/
theorem Gr.same {R : Nat} {w w' : World} (h : Gr R w w') {b : Nat} (hb : b < w.heap.size) (hn : b ≠ R) : w'.heap[b]? = w.heap[b]? := h.block b hb (fun e => hn (by cases e; rfl))
theorem heap_put (W : World) {b g : Nat} (hn : g ≠ b) (d0 d1 d2 d3 d4 d5 d6 d7 : Value) : ((((((((W.setCell ⟨b, 0, none⟩ d0).setCell ⟨b, 1, none⟩ d1).setCell ⟨b, 2, none⟩ d2).setCell ⟨b, 3, none⟩ d3).setCell ⟨b, 4, none⟩ d4).setCell ⟨b, 5, none⟩ d5).setCell ⟨b, 6, none⟩ d6).setCell ⟨b, 7, none⟩ d7).heap[g]? = W.heap[g]? := by
  rw [heap_setCell_other _ ⟨b, 7, none⟩ g _ hn]
  rw [heap_setCell_other _ ⟨b, 6, none⟩ g _ hn]
  rw [heap_setCell_other _ ⟨b, 5, none⟩ g _ hn]
  rw [heap_setCell_other _ ⟨b, 4, none⟩ g _ hn]
  rw [heap_setCell_other _ ⟨b, 3, none⟩ g _ hn]
  rw [heap_setCell_other _ ⟨b, 2, none⟩ g _ hn]
  rw [heap_setCell_other _ ⟨b, 1, none⟩ g _ hn]
  rw [heap_setCell_other _ ⟨b, 0, none⟩ g _ hn]
theorem NodeAt.put {w : World} {A : Nat → Prop} {v : Value} {x : Nd} (h : NodeAt w A v x) {b : Nat} (hn : ∀ g, A g → g ≠ b) (d0 d1 d2 d3 d4 d5 d6 d7 : Value) : NodeAt ((((((((w.setCell ⟨b, 0, none⟩ d0).setCell ⟨b, 1, none⟩ d1).setCell ⟨b, 2, none⟩ d2).setCell ⟨b, 3, none⟩ d3).setCell ⟨b, 4, none⟩ d4).setCell ⟨b, 5, none⟩ d5).setCell ⟨b, 6, none⟩ d6).setCell ⟨b, 7, none⟩ d7) A v x := h.keep fun g hA _ => ⟨heap_put w (hn g hA) _ _ _ _ _ _ _ _, hA⟩
theorem Blk.putOther {w : World} {b : Nat} {c0 c1 c2 c3 c4 c5 c6 c7 : Value} (h : Blk w b c0 c1 c2 c3 c4 c5 c6 c7) {g : Nat} (hn : b ≠ g) (d0 d1 d2 d3 d4 d5 d6 d7 : Value) : Blk ((((((((w.setCell ⟨g, 0, none⟩ d0).setCell ⟨g, 1, none⟩ d1).setCell ⟨g, 2, none⟩ d2).setCell ⟨g, 3, none⟩ d3).setCell ⟨g, 4, none⟩ d4).setCell ⟨g, 5, none⟩ d5).setCell ⟨g, 6, none⟩ d6).setCell ⟨g, 7, none⟩ d7) b c0 c1 c2 c3 c4 c5 c6 c7 := h.keep (heap_put w hn _ _ _ _ _ _ _ _)
theorem results_node1 {fn : Func} {t : Tmp} (h : fn.results = #[.cell t 26]) (tmps : Array Value) (w : World) (b : Nat) (c0 c1 c2 c3 c4 c5 c6 c7 : Value) (hp : tmps.getD t undef = .pointer (some ⟨b, 0, none⟩)) (hb : Blk w b c0 c1 c2 c3 c4 c5 c6 c7) :
    (results fn tmps).run Try.prog w = .ok (.agg #[c0, c1, c2, c3, c4, c5, c6, c7]) w := by
  obtain ⟨q0, q1, q2, q3, q4, q5, q6, q7⟩ := hb.cells
  rw [Array.getD_eq_getD_getElem?] at hp
  simp [results, h, hp, go_sem, q0, q1, q2, q3, q4, q5, q6, q7]
theorem results_node2 {fn : Func} {t u : Tmp} (h : fn.results = #[.cell t 26, .tmp u]) (tmps : Array Value) (w : World) (b : Nat) (c0 c1 c2 c3 c4 c5 c6 c7 : Value) (hp : tmps.getD t undef = .pointer (some ⟨b, 0, none⟩)) (hb : Blk w b c0 c1 c2 c3 c4 c5 c6 c7) :
    (results fn tmps).run Try.prog w = .ok (.tuple #[.agg #[c0, c1, c2, c3, c4, c5, c6, c7], tmps.getD u undef]) w := by
  obtain ⟨q0, q1, q2, q3, q4, q5, q6, q7⟩ := hb.cells
  rw [Array.getD_eq_getD_getElem?] at hp
  simp [results, h, hp, go_sem, q0, q1, q2, q3, q4, q5, q6, q7]
theorem results_node3 {fn : Func} {t u v : Tmp} (h : fn.results = #[.cell t 26, .tmp u, .tmp v]) (tmps : Array Value) (w : World) (b : Nat) (c0 c1 c2 c3 c4 c5 c6 c7 : Value) (hp : tmps.getD t undef = .pointer (some ⟨b, 0, none⟩)) (hb : Blk w b c0 c1 c2 c3 c4 c5 c6 c7) :
    (results fn tmps).run Try.prog w = .ok (.tuple #[.agg #[c0, c1, c2, c3, c4, c5, c6, c7], tmps.getD u undef, tmps.getD v undef]) w := by
  obtain ⟨q0, q1, q2, q3, q4, q5, q6, q7⟩ := hb.cells
  rw [Array.getD_eq_getD_getElem?] at hp
  simp [results, h, hp, go_sem, q0, q1, q2, q3, q4, q5, q6, q7]
theorem NodeAt.up {w : World} {n m : Nat} {v : Value} {x : Nd} (h : NodeAt w (m ≤ ·) v x) (hn : n ≤ m) : NodeAt w (n ≤ ·) v x := h.keep fun _ hA _ => ⟨rfl, Nat.le_trans hn hA⟩
theorem NodeAt.alloc {w : World} {A : Nat → Prop} {v : Value} {x : Nd} (h : NodeAt w A v x) (o : Obj) : NodeAt (w.alloc o) A v x := h.later ((Below.refl _ w).alloc (Nat.le_refl _) o)
theorem NodeAt.drew {w : World} {A : Nat → Prop} {v : Value} {x : Nd} (h : NodeAt w A v x) : NodeAt w.drew A v x := h.keep fun _ hA _ => ⟨rfl, hA⟩
theorem NodeAt.other {w : World} {n : Nat} {v : Value} {x : Nd} (h : NodeAt w (n ≤ ·) v x) {g i : Nat} {u : Value} (hg : g < n) : NodeAt (w.setCell ⟨g, i, none⟩ u) (n ≤ ·) v x :=
  h.keep fun b hA _ => ⟨heap_setCell_other w ⟨g, i, none⟩ b u (by have : n ≤ b := hA; show b ≠ g; omega), hA⟩
theorem NodeAt.putN {w : World} {n : Nat} {v : Value} {x : Nd} (h : NodeAt w (n ≤ ·) v x) {b : Nat} (hn : b < n) (d0 d1 d2 d3 d4 d5 d6 d7 : Value) : NodeAt ((((((((w.setCell ⟨b, 0, none⟩ d0).setCell ⟨b, 1, none⟩ d1).setCell ⟨b, 2, none⟩ d2).setCell ⟨b, 3, none⟩ d3).setCell ⟨b, 4, none⟩ d4).setCell ⟨b, 5, none⟩ d5).setCell ⟨b, 6, none⟩ d6).setCell ⟨b, 7, none⟩ d7) (n ≤ ·) v x := h.put (fun g hA => by have : n ≤ g := hA; omega) _ _ _ _ _ _ _ _
/-- while the reader goes on -/
theorem NodeAt.gr {w w' : World} {R n : Nat} {v : Value} {x : Nd} (h : NodeAt w (n ≤ ·) v x) (hg : Gr R w w') (hR : R < n) : NodeAt w' (n ≤ ·) v x :=
  h.keep fun b hA hlt => ⟨hg.same hlt (by have : n ≤ b := hA; omega), hA⟩
theorem Blk.gr {w w' : World} {R b : Nat} {c0 c1 c2 c3 c4 c5 c6 c7 : Value} (h : Blk w b c0 c1 c2 c3 c4 c5 c6 c7) (hg : Gr R w w') (hR : b ≠ R) : Blk w' b c0 c1 c2 c3 c4 c5 c6 c7 := h.keep (hg.same h.lt hR)
/-- from a block on, but one -/
def Off (n N : Nat) (b : Nat) : Prop := n ≤ b ∧ b ≠ N
theorem NodeAt.toOff {w : World} {n m N : Nat} {v : Value} {x : Nd} (h : NodeAt w (m ≤ ·) v x) (hn : n ≤ m) (hN : w.heap.size ≤ N) : NodeAt w (Off n N) v x :=
  h.keep fun b hA hlt => ⟨rfl, Nat.le_trans hn hA, by omega⟩
theorem NodeAt.ofOff {w : World} {n m N : Nat} {v : Value} {x : Nd} (h : NodeAt w (Off n N) v x) (hn : m ≤ n) : NodeAt w (m ≤ ·) v x :=
  h.keep fun _ hA _ => ⟨rfl, Nat.le_trans hn hA.1⟩
theorem NodeAt.otherO {w : World} {n N : Nat} {v : Value} {x : Nd} (h : NodeAt w (Off n N) v x) {g i : Nat} {u : Value} (hg : g < n ∨ g = N) : NodeAt (w.setCell ⟨g, i, none⟩ u) (Off n N) v x :=
  h.keep fun b hA _ => ⟨heap_setCell_other w ⟨g, i, none⟩ b u (by have h1 := hA.1; have h2 := hA.2; show b ≠ g; omega), hA⟩
theorem NodeAt.putO {w : World} {n N : Nat} {v : Value} {x : Nd} (h : NodeAt w (Off n N) v x) {b : Nat} (hn : b < n ∨ b = N) (d0 d1 d2 d3 d4 d5 d6 d7 : Value) : NodeAt ((((((((w.setCell ⟨b, 0, none⟩ d0).setCell ⟨b, 1, none⟩ d1).setCell ⟨b, 2, none⟩ d2).setCell ⟨b, 3, none⟩ d3).setCell ⟨b, 4, none⟩ d4).setCell ⟨b, 5, none⟩ d5).setCell ⟨b, 6, none⟩ d6).setCell ⟨b, 7, none⟩ d7) (Off n N) v x := h.put (fun g hA => by have h1 := hA.1; have h2 := hA.2; omega) _ _ _ _ _ _ _ _
/-- the shape of a node's value -/
theorem NodeAt.shapeI {w : World} {A : Nat → Prop} {v : Value} {x : Nd} (h : NodeAt w A v x) : ∃ (z y0 y1 y2 y3 : Int) (sa : Option Addr) (sn sc : Nat) (lo hi : Int), v = .agg #[.int .i64 z, .int .u64 y0, .int .u64 y1, .int .u64 y2, .int .u64 y3, .slice sa sn sc, .int .i64 lo, .int .i64 hi] := by
  obtain ⟨k, f, kids, lo, hi⟩ := x
  obtain ⟨kv, rfl, a, cap, vs, rfl, _⟩ := h.open
  exact ⟨_, _, _, _, _, _, _, _, _, _, rfl⟩
/-- a node, so many times -/
theorem times_at {w : World} {A : Nat → Prop} {B : Nat} {x : Nd} {c0 c1 c2 c3 c4 c5 c6 c7 : Value} {z l h : Int} (hx : NodeAt w A (.agg #[c0, c1, c2, c3, c4, c5, c6, c7]) x) (hb : Blk w B c0 c1 c2 c3 c4 c5 c6 c7) (hA : A B) (hz : z = 5) :
    NodeAt w A (.agg #[.int .i64 z, .int .u64 0, .int .u64 0, .int .u64 0, .int .u64 0, .slice (some ⟨B, 0, none⟩) 1 1, .int .i64 l, .int .i64 h]) (timesN x l h) := by
  obtain ⟨q0, q1, q2, q3, q4, q5, q6, q7⟩ := hb.cells
  have hk : KidsAt w A (.slice (some ⟨B, 0, none⟩) 1 1) [x] := by
    refine ⟨some ⟨B, 0, none⟩, 1, [.agg #[c0, c1, c2, c3, c4, c5, c6, c7]], rfl, rfl, Nat.le_refl _, fun _ => ⟨B, 0, rfl, hA, fun j v hj => ?_⟩, fun j v d hj hd => ?_⟩
    · match j, hj with
      | 0, hj =>
        simp at hj
        subst hj
        exact ⟨c0, c1, c2, c3, c4, c5, c6, c7, rfl, q0, q1, q2, q3, q4, q5, q6, q7⟩
    · match j, hj, hd with
      | 0, hj, hd =>
        simp at hj hd
        subst hj; subst hd
        exact hx
  have := hk.shut 5 none_ l h
  unfold nodeV at this
  rw [show word none_ 0 = 0 from word_none 0, show word none_ 1 = 0 from word_none 1, show word none_ 2 = 0 from word_none 2, show word none_ 3 = 0 from word_none 3] at this
  rw [hz]
  exact this
/-- where the reader stands -/
def posOf (w : World) (R : Nat) : Nat := match w.cell? ⟨R, 1, none⟩ with | some v => (intOf v).toNat | none => 0
theorem bel_alloc {a w : World} (h : Below a.heap.size a w) (o : Obj) : Below a.heap.size a (w.alloc o) := h.alloc h.size o
theorem bel_set {a w : World} (h : Below a.heap.size a w) {b i : Nat} {u : Value} (hb : a.heap.size ≤ b) : Below a.heap.size a (w.setCell ⟨b, i, none⟩ u) := h.setCell (p := ⟨b, i, none⟩) hb u
theorem bel_put {a w : World} (h : Below a.heap.size a w) {b : Nat} (hb : a.heap.size ≤ b) (d0 d1 d2 d3 d4 d5 d6 d7 : Value) : Below a.heap.size a ((((((((w.setCell ⟨b, 0, none⟩ d0).setCell ⟨b, 1, none⟩ d1).setCell ⟨b, 2, none⟩ d2).setCell ⟨b, 3, none⟩ d3).setCell ⟨b, 4, none⟩ d4).setCell ⟨b, 5, none⟩ d5).setCell ⟨b, 6, none⟩ d6).setCell ⟨b, 7, none⟩ d7) := (bel_set (bel_set (bel_set (bel_set (bel_set (bel_set (bel_set (bel_set h hb) hb) hb) hb) hb) hb) hb) hb)
theorem Gr.drewN {R : Nat} {w W : World} (h : Gr R w W) (n : Nat) : Gr R w (W.drewN n) := ⟨h.os, h.tape, h.output, h.size, h.block⟩
theorem NodeAt.drewN {w : World} {A : Nat → Prop} {v : Value} {d : Nd} (h : NodeAt w A v d) (n : Nat) : NodeAt (w.drewN n) A v d := h.keep fun _ hA _ => ⟨rfl, hA⟩
/-- does a byte come next -/
def meetB (p : Tx) (k : Nat) (c : UInt8) : Bool := decide (k < p.length) && p.getD k 0 == c
/-- a set as an atom -/
def setAtom (l : Tx) : Rs Nd :=
  match setE (l.drop 1) with
  | none => .er 0 2
  | some r => .ok (setN r.1) (1 + r.2)
abbrev ZeroAt (w : World) (b : Nat) : Prop := Blk w b (.int .i64 0) (.int .u64 0) (.int .u64 0) (.int .u64 0) (.int .u64 0) (.slice none 0 0) (.int .i64 0) (.int .i64 0)
theorem ZeroAt.later {w w' : World} {b : Nat} (h : ZeroAt w b) (hb : Below w.heap.size w w') : ZeroAt w' b := Blk.later h hb
theorem ZeroAt.gr {w w' : World} {R b : Nat} (h : ZeroAt w b) (hg : Gr R w w') (hR : b ≠ R) : ZeroAt w' b := Blk.gr h hg hR
theorem zeroV_is : zeroV = .agg #[.int .i64 0, .int .u64 0, .int .u64 0, .int .u64 0, .int .u64 0, .slice none 0 0, .int .i64 0, .int .i64 0] := rfl
theorem setN_at (w : World) (A : Nat → Prop) (f : Bs) : NodeAt w A (nodeV 2 f (.slice none 0 0) 0 0) (setN f) := (KidsAt.nil w A).shut 2 f 0 0
theorem plainN_at (w : World) (A : Nat → Prop) (k : Int) : NodeAt w A (nodeV k none_ (.slice none 0 0) 0 0) (plainN k) := (KidsAt.nil w A).shut k none_ 0 0
theorem nodeV_plain (k : Int) : nodeV k none_ (.slice none 0 0) 0 0 = .agg #[.int .i64 k, .int .u64 0, .int .u64 0, .int .u64 0, .int .u64 0, .slice none 0 0, .int .i64 0, .int .i64 0] := by
  unfold nodeV
  rw [show word none_ 0 = 0 from word_none 0, show word none_ 1 = 0 from word_none 1, show word none_ 2 = 0 from word_none 2, show word none_ 3 = 0 from word_none 3]
  rfl
theorem plainN_lit (w : World) (A : Nat → Prop) (k : Int) (z : Int) (hz : z = k) : NodeAt w A (.agg #[.int .i64 z, .int .u64 0, .int .u64 0, .int .u64 0, .int .u64 0, .slice none 0 0, .int .i64 0, .int .i64 0]) (plainN k) := by
  rw [hz, ← nodeV_plain]; exact plainN_at w A k
/-- the reading of a set, by what Read says -/
theorem setE_of (p : Tx) (k : Nat) (q : Nat) (hq : q = k + 1 + negN (p.drop (k + 1))) (hk : k < p.length) :
    setE (p.drop (k + 1)) = (setGo eOne (p.length + 1) true (p.drop q) none_).map fun r => (if negE (p.drop (k + 1)) = true then othersB r.1 else r.1, negN (p.drop (k + 1)) + r.2) := by
  have hn := negN_le (p.drop (k + 1))
  rw [List.length_drop] at hn
  unfold setE
  rw [List.drop_drop, ← hq, setGo_fuel false _ (p.length + 1) true (p.drop q) none_ (by rw [List.length_drop, List.length_drop]; omega) (by rw [List.length_drop]; omega)]
  rfl
theorem meetB_is (p : Tx) (k : Nat) (c : UInt8) (hc : c ≠ 0) : meetB p k c = ((p.drop k).getD 0 0 == c) := by
  unfold meetB
  rw [getD_byte]
  by_cases h : k < p.length
  · simp [h]
  · rw [getD_out (by omega)]
    simp [h]
    exact fun e => hc e.symm
/-- an answer's value, laid open -/
theorem NodeAt.shape {w : World} {A : Nat → Prop} {v : Value} {x : Nd} (h : NodeAt w A v x) : ∃ k f a n cp lo hi, v = nodeV k f (.slice a n cp) lo hi := by
  obtain ⟨k, f, kids, lo, hi⟩ := x
  obtain ⟨kv, rfl, a, cap, vs, rfl, _⟩ := h.open
  exact ⟨k, f, a, _, cap, lo, hi, rfl⟩
theorem far_far {α : Type} (a b : Nat) (r : Rs α) : (r.far a).far b = r.far (b + a) := by cases r <;> simp [Rs.far] <;> omega
theorem far_zero {α : Type} (r : Rs α) : r.far 0 = r := by cases r <;> simp [Rs.far]
theorem Try.infoNode : (Try.prog.info? 26).map (fun i => (i.zero, i.size, i.bytes)) = some (some (.agg #[.int .i64 0, .int .u64 0, .int .u64 0, .int .u64 0, .int .u64 0, .slice none 0 0, .int .i64 0, .int .i64 0]), 8, 80) := by kernel_rfl
/-- the cells of a node's value -/
def flat : Value → List Value
  | .agg cs => cs.toList
  | _ => []
def cells8 : List Value → List Value
  | [] => []
  | v :: l => flat v ++ cells8 l
/-- eight cells, each of one -/
def Eight (v : Value) : Prop := ∃ c0 c1 c2 c3 c4 c5 c6 c7, v = .agg #[c0, c1, c2, c3, c4, c5, c6, c7] ∧ ∀ u ∈ [c0, c1, c2, c3, c4, c5, c6, c7], u.oneCell' = true
theorem cells8_app (a b : List Value) : cells8 (a ++ b) = cells8 a ++ cells8 b := by
  induction a with
  | nil => rfl
  | cons v l ih => simp [cells8, ih]
theorem Eight.flat {v : Value} (h : Eight v) : (flat v).length = 8 := by
  obtain ⟨c0, c1, c2, c3, c4, c5, c6, c7, rfl, _⟩ := h
  rfl
theorem cells8_len (l : List Value) (h : ∀ v ∈ l, Eight v) : (cells8 l).length = l.length * 8 := by
  induction l with
  | nil => rfl
  | cons v l ih =>
    have h1 := (h v (by simp)).flat
    have h2 := ih (fun u hu => h u (by simp [hu]))
    simp [cells8, h1, h2]
    omega
theorem cells8_at (l : List Value) (h : ∀ v ∈ l, Eight v) : ∀ (j i : Nat) (v : Value), l[j]? = some v → i < 8 → (cells8 l)[j * 8 + i]? = (flat v)[i]? := by
  induction l with
  | nil => intro j i v hj; simp at hj
  | cons x l ih =>
    intro j i v hj hi
    have h1 := (h x (by simp)).flat
    cases j with
    | zero =>
      simp at hj
      subst hj
      rw [cells8, Nat.zero_mul, Nat.zero_add, List.getElem?_append_left (by omega)]
    | succ j =>
      rw [cells8, List.getElem?_append_right (by omega), h1, show (j + 1) * 8 + i - 8 = j * 8 + i by omega]
      exact ih (fun u hu => h u (by simp [hu])) j i v (by simpa using hj) hi
theorem NodeAt.eight {w : World} {A : Nat → Prop} {v : Value} {d : Nd} (h : NodeAt w A v d) : Eight v := by
  obtain ⟨z, y0, y1, y2, y3, sa, sn, sc, lo, hi, rfl⟩ := h.shapeI
  refine ⟨_, _, _, _, _, _, _, _, rfl, fun u hu => ?_⟩
  simp at hu
  rcases hu with rfl | rfl | rfl | rfl | rfl | rfl | rfl | rfl <;> rfl
/-- a list of nodes that the call owns: from block B on, each node beside the list's own block -/
structure LN (B : Nat) (v : Value) (vs : List Value) (l : List Nd) (W : World) : Prop where
  len : vs.length = l.length
  own : W.ownsRow B 26 8 v l.length (cells8 vs)
  eights : ∀ u ∈ vs, Eight u
  nodes : ∀ (j : Nat) u d, vs[j]? = some u → l[j]? = some d → NodeAt W (fun b => B ≤ b ∧ some b ≠ v.ownBlock) u d
theorem LN.nil (B : Nat) (W : World) : LN B (.slice none 0 0) [] [] W :=
  ⟨rfl, World.ownsRow_nil W B _ _, fun u h => by simp at h, fun j u d h => by simp at h⟩
/-- nothing from B on has turned -/
theorem LN.keep {B : Nat} {v : Value} {vs : List Value} {l : List Nd} {W W' : World} (h : LN B v vs l W) (hb : ∀ b, B ≤ b → b < W.heap.size → W'.heap[b]? = W.heap[b]?) : LN B v vs l W' := by
  refine ⟨h.len, ?_, h.eights, fun j u d hu hd => (h.nodes j u d hu hd).keep fun b hA hlt => ⟨hb b hA.1 hlt, hA⟩⟩
  refine ⟨h.own.1, ?_⟩
  rcases h.own.2 with hn | ⟨g, cap, cur, hv, hg, hh, rest⟩
  · exact Or.inl hn
  · exact Or.inr ⟨g, cap, cur, hv, hg, by rw [hb g hg (Array.getElem?_eq_some_iff.1 hh).1]; exact hh, rest⟩
theorem LN.alloc {B : Nat} {v : Value} {vs : List Value} {l : List Nd} {W : World} (h : LN B v vs l W) (o : Obj) : LN B v vs l (W.alloc o) := h.keep fun b _ hlt => Below.heap_alloc W o b hlt
theorem LN.drewN {B : Nat} {v : Value} {vs : List Value} {l : List Nd} {W : World} (h : LN B v vs l W) (n : Nat) : LN B v vs l (W.drewN n) := h.keep fun _ _ _ => rfl
theorem LN.drew {B : Nat} {v : Value} {vs : List Value} {l : List Nd} {W : World} (h : LN B v vs l W) : LN B v vs l W.drew := h.keep fun _ _ _ => rfl
theorem LN.gr {B R : Nat} {v : Value} {vs : List Value} {l : List Nd} {W W' : World} (h : LN B v vs l W) (hg : Gr R W W') (hR : R < B) : LN B v vs l W' := h.keep fun b hB hlt => hg.same hlt (by omega)
theorem LN.other {B : Nat} {v : Value} {vs : List Value} {l : List Nd} {W : World} (h : LN B v vs l W) {g i : Nat} {u : Value} (hg : g < B) : LN B v vs l (W.setCell ⟨g, i, none⟩ u) := h.keep fun b hB _ => heap_setCell_other W ⟨g, i, none⟩ b u (by show b ≠ g; omega)
theorem LN.put {B : Nat} {v : Value} {vs : List Value} {l : List Nd} {W : World} (h : LN B v vs l W) {g : Nat} (hg : g < B) (d0 d1 d2 d3 d4 d5 d6 d7 : Value) : LN B v vs l ((((((((W.setCell ⟨g, 0, none⟩ d0).setCell ⟨g, 1, none⟩ d1).setCell ⟨g, 2, none⟩ d2).setCell ⟨g, 3, none⟩ d3).setCell ⟨g, 4, none⟩ d4).setCell ⟨g, 5, none⟩ d5).setCell ⟨g, 6, none⟩ d6).setCell ⟨g, 7, none⟩ d7) := h.keep fun b hB _ => heap_put W (by omega) _ _ _ _ _ _ _ _
theorem LN.below {B : Nat} {v : Value} {vs : List Value} {l : List Nd} {W W' : World} (h : LN B v vs l W) (hb : Below W.heap.size W W') : LN B v vs l W' := h.keep fun b _ hlt => hb.block b hlt
theorem LN.lt {B : Nat} {v : Value} {vs : List Value} {l : List Nd} {W : World} (h : LN B v vs l W) : ∀ k, v.ownBlock = some k → B ≤ k ∧ k < W.heap.size := h.own.lt
/-- the list as a list in memory -/
theorem LN.kids {B : Nat} {v : Value} {vs : List Value} {l : List Nd} {W : World} (h : LN B v vs l W) : KidsAt W (B ≤ ·) v l := by
  rcases h.own.2 with ⟨hv, hn⟩ | ⟨g, cap, cur, hv, hg, hh, hnc, hcm, hcs, hct⟩
  · obtain rfl : l = [] := List.eq_nil_of_length_eq_zero hn
    subst hv
    exact KidsAt.nil W _
  · refine ⟨some ⟨g, 0, none⟩, cap, vs, hv, h.len, hnc, fun _ => ⟨g, 0, rfl, hg, fun j u hu => ?_⟩, fun j u d hu hd => (h.nodes j u d hu hd).keep fun b hA _ => ⟨rfl, hA.1⟩⟩
    have he := h.eights u (List.mem_of_getElem? hu)
    obtain ⟨c0, c1, c2, c3, c4, c5, c6, c7, rfl, _⟩ := he
    have hc : ∀ i, i < 8 → ∀ c, [c0, c1, c2, c3, c4, c5, c6, c7][i]? = some c → W.cell? ⟨g, 0 + j * 8 + i, none⟩ = some c := by
      intro i hi c hci
      have h1 := cells8_at vs h.eights j i _ hu hi
      have h2 := h.own.cells (g := g) (by rw [hv]; rfl) (j * 8 + i) c (by rw [h1]; exact hci)
      have h3 : (⟨g, 0, none⟩ : Addr).add (j * 8 + i) = ⟨g, 0 + j * 8 + i, none⟩ := by
        unfold Addr.add
        split <;> simp_all
      rw [h3] at h2
      exact h2
    exact ⟨c0, c1, c2, c3, c4, c5, c6, c7, rfl, hc 0 (by decide) _ rfl, hc 1 (by decide) _ rfl, hc 2 (by decide) _ rfl, hc 3 (by decide) _ rfl, hc 4 (by decide) _ rfl, hc 5 (by decide) _ rfl, hc 6 (by decide) _ rfl, hc 7 (by decide) _ rfl⟩
theorem eight_new (W : World) (c0 c1 c2 c3 c4 c5 c6 c7 : Value) (t : TypeId) (b : Nat) (hb : b = W.heap.size) : ∀ j u, [c0, c1, c2, c3, c4, c5, c6, c7][j]? = some u → (W.alloc (.cells #[c0, c1, c2, c3, c4, c5, c6, c7] t)).cell? ((⟨b, 0, none⟩ : Addr).add j) = some u := by
  intro j u h
  subst hb
  have h3 : (⟨W.heap.size, 0, none⟩ : Addr).add j = ⟨W.heap.size, j, none⟩ := by
    unfold Addr.add
    split <;> simp_all
  have hh : (W.alloc (.cells #[c0, c1, c2, c3, c4, c5, c6, c7] t)).heap[W.heap.size]? = some (.cells #[c0, c1, c2, c3, c4, c5, c6, c7] t) := by
    show (W.heap.push _)[W.heap.size]? = _
    exact Array.getElem?_push_size
  rw [h3]
  simp only [World.cell?, hh]
  simpa using h
/-- what 'append' of one node to a list of the call's own does -/
theorem wpList_append_node (w : World) {ops : Array Oper} {rest : List Oper} {o : Oper} {a : Act} {Q : Exit → Act → World → Prop} (hw : Region.wanted o (yielded ops a.tmps) = true) (s x : Operand)
    (ho : o.op = .call { callee := .builtin .append, args := #[s, x], argTypes := #[24, 24] }) (B b : Nat) (v : Value) (vs : List Value) (l : List Nd) (d : Nd) (c0 c1 c2 c3 c4 c5 c6 c7 : Value) (hs : a.eval s = v) (hx : a.eval x = .slice (some ⟨b, 0, none⟩) 1 1)
    (hl : LN B v vs l w) (hd : NodeAt w (fun b => B ≤ b ∧ some b ≠ v.ownBlock) (.agg #[c0, c1, c2, c3, c4, c5, c6, c7]) d) (hcell : ∀ j u, [c0, c1, c2, c3, c4, c5, c6, c7][j]? = some u → w.cell? ((⟨b, 0, none⟩ : Addr).add j) = some u) (hlen : l.length < 1048576) (hB : B ≤ w.heap.size)
    (h : ∀ v' w', LN B v' (vs ++ [.agg #[c0, c1, c2, c3, c4, c5, c6, c7]]) (l ++ [d]) w' → w.grownBy w' v.ownBlock → wpList Try.prog ops Q rest (a.put o.dst v') w') : wpList Try.prog ops Q (o :: rest) a w := by
  refine BigFrame.wpList_want hw fun _ hK => ?_
  obtain ⟨i0, hi, hz0, hz1, hz2⟩ := info_parts Try.infoNode
  have he : Eight (.agg #[c0, c1, c2, c3, c4, c5, c6, c7]) := hd.eight
  have h1 : ∀ u ∈ [c0, c1, c2, c3, c4, c5, c6, c7], u.oneCell' = true := by
    obtain ⟨e0, e1, e2, e3, e4, e5, e6, e7, hv, hu⟩ := he
    injection hv with hv
    simp at hv
    obtain ⟨rfl, rfl, rfl, rfl, rfl, rfl, rfl, rfl⟩ := hv
    exact hu
  obtain ⟨v', w', hr, h2, h3, _, h5⟩ := run_append_own_at (P := Try.prog) w B 24 o.type 26 i0 (.agg #[.int .i64 0, .int .u64 0, .int .u64 0, .int .u64 0, .int .u64 0, .slice none 0 0, .int .i64 0, .int .i64 0]) 8 80 Try.underlying24 hi hz0 hz1 hz2 rfl (by decide) v l.length (cells8 vs) hl.own ⟨b, 0, none⟩ 1 1 [c0, c1, c2, c3, c4, c5, c6, c7] rfl hcell h1 (by unfold maxLen; omega) (by omega) hB
  have hnew : ∀ b', (B ≤ b' ∧ some b' ≠ v.ownBlock) → b' < w.heap.size → w'.heap[b']? = w.heap[b']? ∧ (B ≤ b' ∧ some b' ≠ v'.ownBlock) := by
    intro b' hA hlt
    refine ⟨h3.block b' hlt hA.2, hA.1, ?_⟩
    rcases h5 with h5 | h5
    · rw [h5]; exact hA.2
    · rw [h5]; intro e; cases e; omega
  have hLN : LN B v' (vs ++ [.agg #[c0, c1, c2, c3, c4, c5, c6, c7]]) (l ++ [d]) w' := by
    refine ⟨by simp [hl.len], ?_, ?_, ?_⟩
    · rw [cells8_app, List.length_append]; exact h2
    · intro u hu
      rcases List.mem_append.1 hu with hu | hu
      · exact hl.eights u hu
      · simp at hu; rw [hu]; exact he
    · intro j u e hu hd'
      by_cases hj : j < vs.length
      · rw [List.getElem?_append_left hj] at hu
        rw [List.getElem?_append_left (by rw [← hl.len]; exact hj)] at hd'
        exact (hl.nodes j u e hu hd').keep hnew
      · rw [List.getElem?_append_right (by omega)] at hu
        rw [List.getElem?_append_right (by rw [← hl.len]; omega)] at hd'
        rw [hl.len] at hu
        cases hjj : j - l.length with
        | zero =>
          rw [hjj] at hu hd'
          simp at hu hd'
          rw [← hu, ← hd']
          exact hd.keep hnew
        | succ m => rw [hjj] at hu; simp at hu
  unfold Oper.wp execOp
  simp only [ho, resolve, invoke, builtin, Sem.run_bind, Sem.run_pure, Result.andThen_ok, List.map_toArray, List.map_cons, List.map_nil, hs, hx, hr]
  exact hK _ _ (h v' w' hLN h3)
theorem map_map {α β γ : Type} (f : α → β) (h : β → γ) (r : Rs α) : (r.map f).map h = r.map (h ∘ f) := by cases r <;> rfl
theorem map_far {α β : Type} (f : α → β) (k : Nat) (r : Rs α) : (r.far k).map f = (r.map f).far k := by cases r <;> rfl
theorem ends_end {p : Tx} {q : Nat} (h : p.length ≤ q) : ends (p.drop q) = true := by rw [List.drop_eq_nil_of_le h]; rfl
theorem ends_is {p : Tx} {q : Nat} (h : q < p.length) : ends (p.drop q) = (p.getD q 0 == 124 || p.getD q 0 == 41) := by
  unfold ends
  rw [getD_byte]
  have : (p.drop q).isEmpty = false := by
    cases hd : p.drop q with
    | nil => exact absurd hd (drop_ne h)
    | cons a t => rfl
  rw [this]
  simp
theorem eqArr (a b c d : Int) (w : World) : (Op.equalIn 10000 23 (.agg #[.int .u64 a, .int .u64 b, .int .u64 c, .int .u64 d]) (.agg #[.int .u64 0, .int .u64 0, .int .u64 0, .int .u64 0])).run Try.prog w = .ok (a == 0 && b == 0 && c == 0 && d == 0) w := by
  have u3 := Try.underlying22
  have a3 := Try.isAgg22
  have z3 := Try.sizeOf22
  rw [show (10000 : Nat) = 9999 + 1 from rfl, Op.equalIn]
  simp only [Sem.run_bind, run_underlying Try.underlying23, Result.andThen_ok]
  simp only [Std.Legacy.Range.forIn_eq_forIn_range', Std.Legacy.Range.size, Nat.sub_zero, Nat.add_sub_cancel, Nat.div_one, List.range'_succ, List.range'_zero, List.forIn_cons, List.forIn_nil]
  go_simp
  by_cases h1 : a = 0 <;> by_cases h2 : b = 0 <;> by_cases h3 : c = 0 <;> by_cases h4 : d = 0 <;> simp [h1, h2, h3, h4]
theorem noSet_is (f : Bs) : (((word f 0 : Nat) : Int) == 0 && ((word f 1 : Nat) : Int) == 0 && ((word f 2 : Nat) : Int) == 0 && ((word f 3 : Nat) : Int) == 0) = noSet f := by
  unfold noSet
  rw [Bool.eq_iff_iff]
  simp
theorem withins_all (l : List Nd) (m : Nat) : withins l m = l.all (fun d => withinN d m) := by
  induction l with
  | nil => rfl
  | cons d l ih => rw [withins, List.all_cons, ih]
theorem withinN_is (k : Int) (f : Bs) (kids : List Nd) (lo hi : Int) (most : Nat) : withinN (.mk k f kids lo hi) most = (aloneN k f kids.length lo hi && !(most == 0 && decide (0 < kids.length)) && kids.all (fun d => withinN d (most - 1))) := by
  rw [withinN, withins_all]
theorem cntN_pos (x : Nd) : 1 ≤ cntN x := by
  obtain ⟨k, f, kids, lo, hi⟩ := x
  rw [cntN]; omega
theorem cnts_len (l : List Nd) : l.length ≤ cnts l := by
  induction l with
  | nil => exact Nat.le_refl _
  | cons d l ih => have := cntN_pos d; rw [cnts, List.length_cons]; omega
theorem cnts_at (l : List Nd) : ∀ (j : Nat) d, l[j]? = some d → cntN d ≤ cnts l := by
  induction l with
  | nil => intro j d h; simp at h
  | cons x l ih =>
    intro j d h
    rw [cnts]
    cases j with
    | zero => simp at h; subst h; omega
    | succ j => have := ih j d (by simpa using h); omega
theorem all_take {l : List Nd} {P : Nd → Bool} {j : Nat} {d : Nd} (h : l[j]? = some d) : (l.take (j + 1)).all P = ((l.take j).all P && P d) := by
  obtain ⟨hj, rfl⟩ := List.getElem?_eq_some_iff.1 h
  rw [List.take_succ_eq_append_getElem hj, List.all_append]
  simp
theorem all_false {l : List Nd} {P : Nd → Bool} {j : Nat} {d : Nd} (h : l[j]? = some d) (hP : P d = false) : l.all P = false := by
  rw [List.all_eq_false]
  exact ⟨d, List.mem_of_getElem? h, by rw [hP]; decide⟩

end Go.Proofs.Ytjlihidmohokhaa
