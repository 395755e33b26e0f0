/-
  How a list of texts that is handed in lies in memory, and how much it holds; no condition but those that each states.
-/
import Derived.Test.YtmmgppaefofehaaRows
import Derived.Test.YtmmgppaefofehaaSame
import Derived.ProofKit
import Derived.OpenShut
import Derived.ShutString
import Derived.SliceStrings
namespace Go.Proofs.Ytmmgppaefofehaa
open Go.ChangeShapes Go.WideShapes Go.ChangeAt Go.RowKit Go.Proofs.Ytmmgppaefofehaa.Ln

/-- a list of texts that was handed in -/
def ArgRow (w : World) (v : Value) (xs : List (List UInt8)) : Prop :=
  (xs = [] ∧ v = .slice none 0 0) ∨ (xs = [] ∧ ∃ a cap, v = .slice (some a) 0 cap) ∨ ∃ b o cap, v = .slice (some ⟨b, o, none⟩) xs.length cap ∧ xs.length ≤ cap ∧ b < w.heap.size ∧ ∀ (j : Nat) x, xs[j]? = some x → w.cell? ⟨b, o + j, none⟩ = some (S x)

theorem ArgRow.row {w : World} {v : Value} {xs : List (List UInt8)} (h : ArgRow w v xs) : RowAt w v xs := by
  rcases h with ⟨rfl, rfl⟩ | ⟨rfl, a, cap, rfl⟩ | h
  · exact Or.inl ⟨rfl, _, _, rfl⟩
  · exact Or.inl ⟨rfl, _, _, rfl⟩
  · exact Or.inr h

theorem bulk_strs {H : Type} (ss : List ByteArray) : Rows.uptoBulkAll (strs (H := H) ss) = ss.length + (ss.map fun s => s.data.toList).flatten.length := by
  induction ss with
  | nil => rfl
  | cons s r ih =>
    have h : Rows.uptoBulkAll (strs (H := H) (s :: r)) = (s.data.toList.length + 1) + Rows.uptoBulkAll (strs (H := H) r) := rfl
    rw [h, ih]
    simp only [List.map_cons, List.flatten_cons, List.length_append, List.length_cons]
    omega

theorem open_texts {H : Type} {enc : TypeId × Value → H} {W : World} {a0 : Option Addr} {len0 cap0 : Nat} {d : DataW H} {p : List MemPlace}
    (h0 : DataW.Trod enc Try.prog W 0 (fun _ => true) true 22 (.slice a0 len0 cap0) d p) :
    ∃ xs : List (List UInt8), ArgRow W (.slice a0 len0 cap0) xs ∧ xs.length + xs.flatten.length ≤ Rows.uptoBulk d := by
  obtain ⟨fuel, hf⟩ := h0
  rcases open_strings Try.underlying22 Try.underlying9 (by kernel_rfl) hf with ⟨hcs, _⟩ | ⟨x, l, c, ss, hcs, _, hl, hm, hz, hd, hcell, hws⟩
  · simp [Value.cells] at hcs
    obtain ⟨rfl, rfl, rfl⟩ := hcs
    exact ⟨[], Or.inl ⟨rfl, rfl⟩, by simp⟩
  · simp [Value.cells] at hcs
    obtain ⟨rfl, rfl, rfl⟩ := hcs
    simp only [if_true] at hz
    have hb : ((ss.take len0).map fun s => s.data.toList).length + ((ss.take len0).map fun s => s.data.toList).flatten.length ≤ Rows.uptoBulk d := by
      have e : d = .slice (strs (ss.take len0)) (strs (ss.drop len0)) := congrArg Prod.fst hd
      have e2 : Rows.uptoBulk (DataW.slice (strs (H := H) (ss.take len0)) (strs (ss.drop len0))) = Rows.uptoBulkAll (strs (H := H) (ss.take len0)) + Rows.uptoBulkAll (strs (H := H) (ss.drop len0)) + 1 := rfl
      rw [e, e2, bulk_strs, List.length_map]
      omega
    refine ⟨(ss.take len0).map fun s => s.data.toList, ?_, hb⟩
    by_cases hpos : len0 = 0
    · subst hpos
      exact Or.inr (Or.inl ⟨by simp, x, cap0, rfl⟩)
    · obtain ⟨b, off, spot⟩ := x
      have hc := hcell 0 (by omega)
      have hspot : spot = none := by simpa [Addr.add] using World.cell?_spot hc
      subst hspot
      have hlen : ((ss.take len0).map fun s => s.data.toList).length = len0 := by rw [List.length_map, List.length_take]; omega
      refine Or.inr (Or.inr ⟨b, off, cap0, by rw [hlen], by omega, ?_, ?_⟩)
      · have := World.block_lt_of_cell? W _ hc
        simpa [addr_add] using this
      · intro j x hx
        obtain ⟨hj, hx2⟩ := List.getElem?_eq_some_iff.1 hx
        rw [hlen] at hj
        have hcj := hcell j (by omega)
        rw [addr_add] at hcj
        rw [hcj]
        have hjs : j < ss.length := by omega
        have hx3 : x = (ss[j]).data.toList := by rw [← hx2]; simp
        rw [hx3, S_data]
        simp [List.getD, List.getElem?_eq_getElem hjs]

end Go.Proofs.Ytmmgppaefofehaa
