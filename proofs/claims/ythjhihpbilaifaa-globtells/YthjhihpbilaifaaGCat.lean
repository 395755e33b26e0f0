/-
  Texts joined and cut, as the walks say them; no conditions.
-/
import Derived.Test.YthjhihpbilaifaaGAlive
import Derived.Test.YthjhihpbilaifaaGPats
namespace Go.Proofs.Ythjhihpbilaifaa
open Go.RowKit Go.Proofs.Ythjhihpbilaifaa.Gl

theorem cat_text (a b : Tx) : (⟨a.toArray⟩ : ByteArray) ++ (⟨b.toArray⟩ : ByteArray) = ⟨(a ++ b).toArray⟩ := by
  apply ByteArray.ext
  simp
theorem ext_list (p : Tx) (a b : Nat) : ((⟨p.toArray⟩ : ByteArray).extract a b).toList = (p.drop a).take (b - a) := by rw [ext_text, Lib.toList_data]
theorem one_of (x : Tx) (k : Nat) (h : k < x.length) : (⟨x.toArray⟩ : ByteArray).extract k (k + 1) = ⟨[x[k]].toArray⟩ := by
  rw [ext_text, show k + 1 - k = 1 by omega, List.drop_eq_getElem_cons h]
  rfl
theorem take_more (x : Tx) (k : Nat) (h : k < x.length) : x.take (k + 1) = x.take k ++ [x[k]] := by
  rw [List.take_add_one, List.getElem?_eq_getElem h]
  rfl
theorem escd_more (x : Tx) (k : Nat) (h : k < x.length) : escd (x.take (k + 1)) = escd (x.take k) ++ [92] ++ [x[k]] := by rw [take_more x k h, escd_snoc]
theorem stard_more (x : Tx) (k : Nat) (h : k < x.length) : stard (x.take (k + 1)) = stard (x.take k) ++ [42] ++ [92] ++ [x[k]] := by rw [take_more x k h, stard_snoc]

end Go.Proofs.Ythjhihpbilaifaa
