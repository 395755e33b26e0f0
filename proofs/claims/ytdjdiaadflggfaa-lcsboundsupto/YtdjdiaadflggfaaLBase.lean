
/-
  What lines.firstEnd, lines.Right, strings.Clone and strings.HasSuffix of one byte 10 answer at any text of at most 1048576 bytes: the first line's end, whether it is a line, the text itself, whether a byte 10 ends it; what the document's own RightLine and Open answer; conditions: the text's length.
-/
import Derived.WalkKit
import Derived.WalkSpells
import Derived.WalkLawsBesides
import Derived.OwnWalk
import Derived.BigQuiet
import Derived.Deep.QuietTactic
import Derived.Deep.Cut
import Derived.Maps.AppendAt
import Derived.Test.YtdjdiaadflggfaaShelf
import Derived.Test.YtdjdiaadflggfaaLPlain
namespace Go.Proofs.Ytdjdiaadflggfaa
open Go.RowKit Go.Proofs.Ytdjdiaadflggfaa.Ln

theorem hidden {p : Prop} (h : p) : Hid p := h
theorem ret_int {k : IntKind} {a b : Int} (h : a = b) : Ending.returned (.int k a) = .returned (.int k b) := by rw [h]
theorem ret_bool {a b : Bool} (h : a = b) : Ending.returned (.bool a) = .returned (.bool b) := by rw [h]
/-- a text as a value -/
def S (x : List UInt8) : Value := .string ⟨x.toArray⟩
theorem S_data (s : ByteArray) : S s.data.toList = .string s := by rw [S, Lib.mk_data]
theorem S_one (x : List UInt8) : (S x).oneCell' = true := rfl
theorem addr_add (b o j : Nat) : (⟨b, o, none⟩ : Addr).add j = ⟨b, o + j, none⟩ := by
  cases j <;> simp [Addr.add]
theorem beq_texts (x y : List UInt8) : ((⟨x.toArray⟩ : ByteArray).toList == (⟨y.toArray⟩ : ByteArray).toList) = decide (x = y) := by
  rw [Lib.toList_data, Lib.toList_data]
  by_cases h : x = y <;> simp [h]

set_option maxHeartbeats 400000 in
theorem clone_any (x : List UInt8) (w : World) (hs : x.length ≤ 281474976710656) :
    Calls Try.prog 27 #[.string ⟨x.toArray⟩] w fun e w' => e = .returned (.string ⟨x.toArray⟩) ∧ Below w.heap.size w w' := by
  have hs2 : (⟨x.toArray⟩ : ByteArray).size ≤ 281474976710656 := hs
  go_enter Try.func27, Try.ntmps27
  go_wp2_with (go_at_call 34; refine (Try.stringslite_Clone _ _ hs2).mono ?_; rintro e w' ⟨rfl, hb⟩)
  go_ret
  exact ⟨rfl, hb⟩

theorem empty_data {s : ByteArray} (h : s.toList.isEmpty = true) : s.data.toList = [] := by
  rw [Lib.toList_data] at h; simpa using h
theorem nonempty_data {s : ByteArray} (h : s.toList.isEmpty = false) : s.data.toList ≠ [] := by
  rw [Lib.toList_data] at h; intro e; rw [e] at h; simp at h

theorem get_data (s : ByteArray) (k : Nat) (h : k < s.size) : s.data.toList[k]? = some s[k] := by
  rw [List.getElem?_eq_getElem (by rw [← Lib.size_eq]; exact h)]; rfl

theorem get_ne (s : ByteArray) (k : Nat) (h : k < s.size) (hc : ((s[k].toNat : Int) == 10) = false) : s.data.toList[k]? ≠ some 10 := by
  rw [get_data s k h]
  intro e
  simp only [Option.some.injEq] at e
  rw [e] at hc
  simp at hc

theorem get_ten (s : ByteArray) (k : Nat) (h : k < s.size) (hc : ((s[k].toNat : Int) == 10) = true) : s.data.toList[k]? = some 10 := by
  rw [get_data s k h]
  have : s[k].toNat = 10 := by have h := beq_iff_eq.1 hc; omega
  congr 1
  exact UInt8.toNat_inj.1 this

theorem cl_last (s : ByteArray) (h : 0 < s.size) : cl s.data.toList = ((s[s.size - 1].toNat : Int) == 10) := by
  have h1 := get_data s (s.size - 1) (by omega)
  have h2 : s.data.toList.getLast? = some s[s.size - 1] := by
    rw [List.getLast?_eq_getElem?, ← Lib.size_eq]; exact h1
  rw [cl, h2, Bool.eq_iff_iff]
  simp only [beq_iff_eq, Option.some.injEq]
  constructor
  · intro e; rw [e]; rfl
  · intro e; exact UInt8.toNat_inj.1 (by show _ = 10; omega)

end Go.Proofs.Ytdjdiaadflggfaa
