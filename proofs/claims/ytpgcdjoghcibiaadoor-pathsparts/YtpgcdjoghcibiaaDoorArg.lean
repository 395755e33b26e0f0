/-
  How lists of ints and of texts that are handed in lie in memory; no condition but those that each states.
-/
import Derived.Test.YtpgcdjoghcibiaaDoorRows
import Derived.Test.YtpgcdjoghcibiaaDoorLaid
import Derived.ProofKit
import Derived.OpenShut
import Derived.ChangeSlices
import Derived.ChangeSame
import Derived.ShutString
import Derived.SliceStrings
namespace Go.Proofs.YtpgcdjoghcibiaaDoor
open Go.ChangeShapes Go.WideShapes Go.ChangeAt Go.RowKit

/-- a list of ints lies in memory -/
def IntsAt (w : World) (v : Value) (xs : List Int) : Prop :=
  (∀ x, x ∈ xs → -9223372036854775808 ≤ x ∧ x ≤ 9223372036854775807) ∧
  ((xs = [] ∧ ∃ ao cap, v = .slice ao 0 cap) ∨ ∃ b o cap, v = .slice (some ⟨b, o, none⟩) xs.length cap ∧ xs.length ≤ cap ∧ b < w.heap.size ∧ ∀ (j : Nat) x, xs[j]? = some x → w.cell? ⟨b, o + j, none⟩ = some (.int .i64 x))

theorem IntsAt.shape {w : World} {v : Value} {xs : List Int} (h : IntsAt w v xs) : ∃ ao cap, v = .slice ao xs.length cap := by
  rcases h.2 with ⟨rfl, ao, cap, rfl⟩ | ⟨b, o, cap, rfl, _⟩
  · exact ⟨ao, cap, rfl⟩
  · exact ⟨_, cap, rfl⟩
theorem IntsAt.cells {w : World} {v : Value} {xs : List Int} (h : IntsAt w v xs) (hne : xs ≠ []) : ∃ b o cap, v = .slice (some ⟨b, o, none⟩) xs.length cap ∧ xs.length ≤ cap ∧ b < w.heap.size ∧ ∀ (j : Nat) x, xs[j]? = some x → w.cell? ⟨b, o + j, none⟩ = some (.int .i64 x) := by
  rcases h.2 with ⟨rfl, _⟩ | h
  · exact absurd rfl hne
  · exact h

theorem open_intsAt {H : Type} {enc : TypeId × Value → H} {W : World} {a0 : Option Addr} {len0 cap0 : Nat} {d : DataW H} {p : List MemPlace}
    (h0 : DataW.Trod enc Tryd.prog W 0 (fun _ => true) true 30 (.slice a0 len0 cap0) d p) :
    ∃ xs : List Int, IntsAt W (.slice a0 len0 cap0) xs ∧ xs.length ≤ maxLen := by
  obtain ⟨fuel, hf⟩ := h0
  rcases open_ints Tryd.underlying30 Tryd.underlying3 (by kernel_rfl) hf with ⟨hcs, _⟩ | ⟨x, l, c, zs, hcs, _, hl, hm, hz, hd, hcell, hws⟩
  · simp [Value.cells] at hcs
    obtain ⟨rfl, rfl, rfl⟩ := hcs
    exact ⟨[], ⟨fun x hx => by simp at hx, Or.inl ⟨rfl, _, _, rfl⟩⟩, Nat.zero_le _⟩
  · simp [Value.cells] at hcs
    obtain ⟨rfl, rfl, rfl⟩ := hcs
    simp only [if_true] at hz
    refine ⟨zs.take len0, ⟨fun x hx => wf_bounds (hws x (List.mem_of_mem_take hx)), ?_⟩, by rw [List.length_take]; omega⟩
    by_cases hpos : len0 = 0
    · subst hpos
      exact Or.inl ⟨by simp, _, _, rfl⟩
    · obtain ⟨b, off, spot⟩ := x
      have hc := hcell 0 (by omega)
      have hspot : spot = none := by simpa [Addr.add] using World.cell?_spot hc
      subst hspot
      have hlen : (zs.take len0).length = len0 := by rw [List.length_take]; omega
      refine Or.inr ⟨b, off, cap0, by rw [hlen], by omega, ?_, ?_⟩
      · have := World.block_lt_of_cell? W _ hc
        simpa [addr_add] using this
      · intro j x hx
        obtain ⟨hj, hx2⟩ := List.getElem?_eq_some_iff.1 hx
        rw [hlen] at hj
        have hcj := hcell j (by omega)
        rw [addr_add] at hcj
        rw [hcj]
        have hjs : j < zs.length := by omega
        rw [← hx2]
        simp [List.getD, List.getElem?_eq_getElem hjs]

theorem open_texts {H : Type} {enc : TypeId × Value → H} {W : World} {a0 : Option Addr} {len0 cap0 : Nat} {d : DataW H} {p : List MemPlace}
    (h0 : DataW.Trod enc Tryd.prog W 0 (fun _ => true) true 25 (.slice a0 len0 cap0) d p) :
    ∃ xs : List (List UInt8), RowAt W (.slice a0 len0 cap0) xs ∧ xs.length ≤ maxLen ∧ ∀ x, x ∈ xs → x.length ≤ maxLen := by
  obtain ⟨fuel, hf⟩ := h0
  rcases open_strings Tryd.underlying25 Tryd.underlying9 (by kernel_rfl) hf with ⟨hcs, _⟩ | ⟨x, l, c, ss, hcs, _, hl, hm, hz, hd, hcell, hws⟩
  · simp [Value.cells] at hcs
    obtain ⟨rfl, rfl, rfl⟩ := hcs
    exact ⟨[], Or.inl ⟨rfl, _, _, rfl⟩, Nat.zero_le _, fun x hx => by simp at hx⟩
  · simp [Value.cells] at hcs
    obtain ⟨rfl, rfl, rfl⟩ := hcs
    simp only [if_true] at hz
    refine ⟨(ss.take len0).map fun s => s.data.toList, ?_, by rw [List.length_map, List.length_take]; omega, fun y hy => ?_⟩
    rotate_left
    · obtain ⟨z, hz2, rfl⟩ := List.mem_map.1 hy
      rw [← Lib.size_eq]; exact hws z (List.mem_of_mem_take hz2)
    by_cases hpos : len0 = 0
    · subst hpos
      exact Or.inl ⟨by simp, _, _, rfl⟩
    · obtain ⟨b, off, spot⟩ := x
      have hc := hcell 0 (by omega)
      have hspot : spot = none := by simpa [Addr.add] using World.cell?_spot hc
      subst hspot
      have hlen : ((ss.take len0).map fun s => s.data.toList).length = len0 := by rw [List.length_map, List.length_take]; omega
      refine Or.inr ⟨b, off, cap0, by rw [hlen], by omega, ?_, ?_⟩
      · have := World.block_lt_of_cell? W _ hc
        simpa [addr_add] using this
      · intro j x hx
        obtain ⟨hj, hx2⟩ := List.getElem?_eq_some_iff.1 hx
        rw [hlen] at hj
        have hcj := hcell j (by omega)
        rw [addr_add] at hcj
        rw [hcj]
        have hjs : j < ss.length := by omega
        have hx3 : x = (ss[j]).data.toList := by rw [← hx2]; simp
        rw [hx3, S_data]
        simp [List.getD, List.getElem?_eq_getElem hjs]

end Go.Proofs.YtpgcdjoghcibiaaDoor
