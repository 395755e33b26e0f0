
/-
  What lines.firstEnd, lines.Right, strings.Clone and strings.HasSuffix of one byte 10 answer at any text of at most 1048576 bytes: the first line's end, whether it is a line, the text itself, whether a byte 10 ends it; what the document's own RightLine and Open answer; conditions: the text's length.
-/
import Derived.WalkKit
import Derived.WalkSpells
import Derived.WalkLawsBesides
import Derived.OwnWalk
import Derived.BigQuiet
import Derived.Deep.QuietTactic
import Derived.Deep.Cut
import Derived.Maps.AppendAt
import Derived.Test.YtbmnflldjkcgnaaShelf
import Derived.Test.YtbmnflldjkcgnaaLPlain
namespace Go.Proofs.Ytbmnflldjkcgnaa
open Go.RowKit Go.Proofs.Ytbmnflldjkcgnaa.Ln

theorem hidden {p : Prop} (h : p) : Hid p := h
theorem ret_int {k : IntKind} {a b : Int} (h : a = b) : Ending.returned (.int k a) = .returned (.int k b) := by rw [h]
theorem ret_bool {a b : Bool} (h : a = b) : Ending.returned (.bool a) = .returned (.bool b) := by rw [h]
/-- a text as a value -/
def S (x : List UInt8) : Value := .string ⟨x.toArray⟩
theorem S_data (s : ByteArray) : S s.data.toList = .string s := by rw [S, Lib.mk_data]
theorem S_one (x : List UInt8) : (S x).oneCell' = true := rfl
theorem addr_add (b o j : Nat) : (⟨b, o, none⟩ : Addr).add j = ⟨b, o + j, none⟩ := by
  cases j <;> simp [Addr.add]
theorem beq_texts (x y : List UInt8) : ((⟨x.toArray⟩ : ByteArray).toList == (⟨y.toArray⟩ : ByteArray).toList) = decide (x = y) := by
  rw [Lib.toList_data, Lib.toList_data]
  by_cases h : x = y <;> simp [h]

set_option maxHeartbeats 400000 in
theorem firstEnd_any (s : ByteArray) (w : World) (hs : s.size ≤ 140737488355328) :
    Calls Try.prog 61 #[.string s] w fun e w' => e = .returned (.int .i64 (fe s.data.toList)) ∧ w' = w := by
  obtain ⟨h1, h2, h3, h4⟩ := fe_index s.data.toList
  rw [← Lib.size_eq] at h2 h3
  generalize hix : Lib.indexByte s.data.toList 10 = ix at *
  have Hix : Hid (Lib.indexByte s.data.toList 10 = ix) := hix
  clear hix
  by_cases h0 : 0 ≤ ix
  · have hfe := h1 h0
    have HF : Hid ((fe s.data.toList : Int) = ix + 1) := hfe
    clear h1 h2 hfe
    go_enter Try.func61, Try.ntmps61
    go_wp2_with (go_at_call 67; refine (Try.strings_IndexByte _ _ _).mono ?_; rintro e w' ⟨rfl, rfl⟩; rw [show ((10 : Int).toNat.toUInt8) = 10 from rfl, Hix.out])
    go_ret
    exact ⟨ret_int HF.out.symm, rfl⟩
  · have hfe := h2 h0
    have HF : Hid (fe s.data.toList = s.size) := hfe
    clear h1 h2 hfe
    go_enter Try.func61, Try.ntmps61
    go_wp2_with (go_at_call 67; refine (Try.strings_IndexByte _ _ _).mono ?_; rintro e w' ⟨rfl, rfl⟩; rw [show ((10 : Int).toNat.toUInt8) = 10 from rfl, Hix.out])
    go_ret
    exact ⟨ret_int (by rw [HF.out]), rfl⟩

theorem suffix_any (x : List UInt8) (w : World) (hs : x.length ≤ 140737488355328) :
    Calls Try.prog 55 #[.string ⟨x.toArray⟩, .string ⟨#[10]⟩] w fun e w' => e = .returned (.bool (cl x)) ∧ w' = w := by
  refine (Try.strings_HasSuffix ⟨x.toArray⟩ ⟨#[10]⟩ w (by show x.length ≤ _; omega)).mono ?_
  rintro e w' ⟨rfl, rfl⟩
  exact ⟨ret_bool (cl_suffix x), rfl⟩

set_option maxHeartbeats 400000 in
theorem clone_any (x : List UInt8) (w : World) (hs : x.length ≤ 281474976710656) :
    Calls Try.prog 31 #[.string ⟨x.toArray⟩] w fun e w' => e = .returned (.string ⟨x.toArray⟩) ∧ Below w.heap.size w w' := by
  have hs2 : (⟨x.toArray⟩ : ByteArray).size ≤ 281474976710656 := hs
  go_enter Try.func31, Try.ntmps31
  go_wp2_with (go_at_call 50; refine (Try.stringslite_Clone _ _ hs2).mono ?_; rintro e w' ⟨rfl, hb⟩)
  go_ret
  exact ⟨rfl, hb⟩

theorem empty_data {s : ByteArray} (h : s.toList.isEmpty = true) : s.data.toList = [] := by
  rw [Lib.toList_data] at h; simpa using h
theorem nonempty_data {s : ByteArray} (h : s.toList.isEmpty = false) : s.data.toList ≠ [] := by
  rw [Lib.toList_data] at h; intro e; rw [e] at h; simp at h

set_option maxHeartbeats 400000 in
theorem lright_any (s : ByteArray) (w : World) (hs : s.size ≤ 140737488355328) :
    Calls Try.prog 53 #[.string s] w fun e w' => e = .returned (.bool (rt s.data.toList)) ∧ w' = w := by
  by_cases h0 : s.toList.isEmpty = true
  · go_enter Try.func53, Try.ntmps53
    go_wp2_with (go_at_call 61; refine (firstEnd_any _ _ (by omega)).mono ?_; rintro e w' ⟨rfl, rfl⟩)
    go_ret
    exact ⟨ret_bool (by simp [rt, empty_data h0]), rfl⟩
  · have h1 : s.toList.isEmpty = false := by simpa using h0
    go_enter Try.func53, Try.ntmps53
    go_wp2_with (go_at_call 61; refine (firstEnd_any _ _ (by omega)).mono ?_; rintro e w' ⟨rfl, rfl⟩)
    go_ret
    exact ⟨ret_bool (by rw [rt, Lib.size_eq, ← Lib.toList_data, h1, Bool.not_false, Bool.true_and, Bool.eq_iff_iff, beq_iff_eq, beq_iff_eq]; omega), rfl⟩

theorem get_data (s : ByteArray) (k : Nat) (h : k < s.size) : s.data.toList[k]? = some s[k] := by
  rw [List.getElem?_eq_getElem (by rw [← Lib.size_eq]; exact h)]; rfl

theorem get_ne (s : ByteArray) (k : Nat) (h : k < s.size) (hc : ((s[k].toNat : Int) == 10) = false) : s.data.toList[k]? ≠ some 10 := by
  rw [get_data s k h]
  intro e
  simp only [Option.some.injEq] at e
  rw [e] at hc
  simp at hc

theorem get_ten (s : ByteArray) (k : Nat) (h : k < s.size) (hc : ((s[k].toNat : Int) == 10) = true) : s.data.toList[k]? = some 10 := by
  rw [get_data s k h]
  have : s[k].toNat = 10 := by have h := beq_iff_eq.1 hc; omega
  congr 1
  exact UInt8.toNat_inj.1 this

set_option maxHeartbeats 1000000 in
theorem rightLine_any (s : ByteArray) (w : World) (hs : s.size ≤ 140737488355328) :
    Calls Try.prog 36 #[.string s] w fun e w' => e = .returned (.bool (rt s.data.toList)) ∧ w' = w := by
  go_enter Try.func36, Try.ntmps36
  go_wp2
  go_loop [3] (fun i => ∃ k : Nat, k ≤ s.size ∧ i = .int .i64 k ∧ Hid (∀ j, j < k → s.data.toList[j]? ≠ some 10)) (fun i => s.size - (intOf i).toNat)
  case atStart => exact ⟨0, Nat.zero_le _, rfl, fun j hj => absurd hj (Nat.not_lt_zero _)⟩
  case round =>
    obtain ⟨k, hk, rfl, hno⟩ := hrel
    by_cases hlt : k + 1 < s.size
    · go_wp2
      · go_ret
        have h10 := get_ten s k (by omega) (by assumption)
        have : rt s.data.toList = false := by
          rw [Bool.eq_false_iff]
          intro h
          exact (fe_full _).1 ((rt_iff _).1 h).2 k (by rw [← Lib.size_eq]; omega) h10
        exact ⟨ret_bool this.symm, rfl⟩
      · have h10 := get_ne s k (by omega) (by assumption)
        have H : ∀ j, j < k + 1 → s.data.toList[j]? ≠ some 10 := fun j hj => by
          by_cases hjk : j = k
          · rw [hjk]; exact h10
          · exact hno.out j (by omega)
        clear h10
        go_round
        case rel => exact ⟨k + 1, by omega, by go_num, H⟩
        case measure => simp [intOf]; omega
    · go_wp2
      go_ret
      have hfe : fe s.data.toList = s.data.toList.length := (fe_full _).2 fun i hi => hno.out i (by rw [← Lib.size_eq] at hi; omega)
      exact ⟨ret_bool (by rw [rt, hfe, ← Lib.toList_data]; simp), rfl⟩

theorem cl_last (s : ByteArray) (h : 0 < s.size) : cl s.data.toList = ((s[s.size - 1].toNat : Int) == 10) := by
  have h1 := get_data s (s.size - 1) (by omega)
  have h2 : s.data.toList.getLast? = some s[s.size - 1] := by
    rw [List.getLast?_eq_getElem?, ← Lib.size_eq]; exact h1
  rw [cl, h2, Bool.eq_iff_iff]
  simp only [beq_iff_eq, Option.some.injEq]
  constructor
  · intro e; rw [e]; rfl
  · intro e; exact UInt8.toNat_inj.1 (by show _ = 10; omega)

set_option maxHeartbeats 1000000 in
theorem open_any (s : ByteArray) (w : World) (hs : s.size ≤ 140737488355328) :
    Calls Try.prog 37 #[.string s] w fun e w' => e = .returned (.bool (!cl s.data.toList)) ∧ w' = w := by
  by_cases h0 : s.toList.isEmpty = true
  · go_enter Try.func37, Try.ntmps37
    go_wp2
    go_ret
    exact ⟨ret_bool (by simp [cl, empty_data h0]), rfl⟩
  · have h1 : s.toList.isEmpty = false := by simpa using h0
    have hpos : 0 < s.size := by
      have := nonempty_data h1
      rw [Lib.size_eq]
      exact List.length_pos_iff.2 this
    go_enter Try.func37, Try.ntmps37
    go_wp2
    go_ret
    refine ⟨ret_bool ?_, rfl⟩
    rw [cl_last s hpos]
    simp only [bne]

theorem lrightX (x : List UInt8) (w : World) (hs : x.length ≤ 140737488355328) :
    Calls Try.prog 53 #[.string ⟨x.toArray⟩] w fun e w' => e = .returned (.bool (rt x)) ∧ w' = w := by
  have := lright_any ⟨x.toArray⟩ w hs
  simpa using this
theorem rightLineX (x : List UInt8) (w : World) (hs : x.length ≤ 140737488355328) :
    Calls Try.prog 36 #[.string ⟨x.toArray⟩] w fun e w' => e = .returned (.bool (rt x)) ∧ w' = w := by
  have := rightLine_any ⟨x.toArray⟩ w hs
  simpa using this
theorem openX (x : List UInt8) (w : World) (hs : x.length ≤ 140737488355328) :
    Calls Try.prog 37 #[.string ⟨x.toArray⟩] w fun e w' => e = .returned (.bool (!cl x)) ∧ w' = w := by
  have := open_any ⟨x.toArray⟩ w hs
  simpa using this

end Go.Proofs.Ytbmnflldjkcgnaa
