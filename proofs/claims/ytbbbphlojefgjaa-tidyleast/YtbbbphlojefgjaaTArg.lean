
/-
  How lists of texts and of numbers that are handed in lie in memory, how many they are and how long the texts are at most; no condition but those that each states.
-/
import Derived.Test.YtbbbphlojefgjaaOArg
import Derived.Test.YtbbbphlojefgjaaORow
import Derived.Test.YtbbbphlojefgjaaIBase
namespace Go.Proofs.Ytbbbphlojefgjaa
open Go.ChangeShapes Go.WideShapes Go.ChangeAt Go.RowKit Go.Deep Go.Proofs.Ytbbbphlojefgjaa.Ln Go.Proofs.Ytbbbphlojefgjaa.Ol

theorem open_textsL {H : Type} {enc : TypeId × Value → H} {W : World} {a0 : Option Addr} {len0 cap0 : Nat} {d : DataW H} {p : List MemPlace}
    (h0 : DataW.Trod enc Try.prog W 0 (fun _ => true) true 27 (.slice a0 len0 cap0) d p) (hw : ∀ n, n ∈ d.weights Try.prog 27 → n ≤ reachBytes) :
    ∃ xs : List Tx, RowAt W (.slice a0 len0 cap0) xs ∧ xs.length ≤ 8796093022208 ∧ FitT xs := by
  obtain ⟨fuel, hf⟩ := h0
  rcases open_strings Try.underlying27 Try.underlying9 (by kernel_rfl) hf with ⟨hcs, _⟩ | ⟨x, l, c, ss, hcs, _, hl, hm, hz, hd, hcell, hws⟩
  · simp [Value.cells] at hcs
    obtain ⟨rfl, rfl, rfl⟩ := hcs
    exact ⟨[], RowAt.nil _ _ _, Nat.zero_le _, fun x hx => by cases hx⟩
  · simp [Value.cells] at hcs
    obtain ⟨rfl, rfl, rfl⟩ := hcs
    simp only [if_true] at hz
    have e : d = .slice (strs (ss.take len0)) (strs (ss.drop len0)) := congrArg Prod.fst hd
    subst e
    have b9 : Try.prog.bytesOf 9 = 16 := by kernel_rfl
    have hlen : ((ss.take len0).map fun s => s.data.toList).length = len0 := by rw [List.length_map, List.length_take]; omega
    have hlw : len0 ≤ 8796093022208 := by
      have h := hw (((strs (H := H) (ss.take len0)).length + (strs (H := H) (ss.drop len0)).length) * 16) (by
        simp only [DataW.weights, Try.underlying27, List.mem_cons, b9]
        exact Or.inl trivial)
      have e1 : (strs (H := H) (ss.take len0)).length = len0 := by simp only [strs, List.length_map, List.length_take]; omega
      rw [e1] at h
      unfold reachBytes at h
      omega
    refine ⟨(ss.take len0).map fun s => s.data.toList, ?_, by rw [hlen]; exact hlw, fun y hy => ?_⟩
    rotate_left
    · obtain ⟨z, hz2, rfl⟩ := List.mem_map.1 hy
      have hm2 : (DataW.lit (.string z.data.toList) : DataW H) ∈ strs (H := H) (ss.take len0) := List.mem_map.2 ⟨z, hz2, rfl⟩
      have h := hw z.data.toList.length (by
        simp only [DataW.weights, Try.underlying27, List.mem_cons, List.mem_append]
        exact Or.inr (Or.inl (weightsAll_mem hm2 _ (by simp [DataW.weights]))))
      unfold reachBytes at h
      omega
    by_cases hpos : len0 = 0
    · subst hpos
      rw [show ((ss.take 0).map fun s => s.data.toList) = [] by simp]
      exact RowAt.nil _ _ _
    · obtain ⟨b, off, spot⟩ := x
      have hc := hcell 0 (by omega)
      have hspot : spot = none := by simpa [Addr.add] using World.cell?_spot hc
      subst hspot
      refine Or.inr ⟨b, off, cap0, by rw [hlen], by omega, ?_, ?_⟩
      · have := World.block_lt_of_cell? W _ hc
        simpa [addr_add] using this
      · intro j x hx
        obtain ⟨hj, hx2⟩ := List.getElem?_eq_some_iff.1 hx
        rw [hlen] at hj
        have hcj := hcell j (by omega)
        rw [addr_add] at hcj
        rw [hcj]
        have hjs : j < ss.length := by omega
        have hx3 : x = (ss[j]).data.toList := by rw [← hx2]; simp
        rw [hx3, S_data]
        simp [List.getD, List.getElem?_eq_getElem hjs]

theorem open_intsL {H : Type} {enc : TypeId × Value → H} {W : World} {a0 : Option Addr} {len0 cap0 : Nat} {d : DataW H} {p : List MemPlace}
    (h0 : DataW.Trod enc Try.prog W 0 (fun _ => true) true 37 (.slice a0 len0 cap0) d p) (hw : ∀ n, n ∈ d.weights Try.prog 37 → n ≤ reachBytes) :
    ∃ xs : List Int, IntsAt W (.slice a0 len0 cap0) xs ∧ xs.length ≤ 4611686018427387904 := by
  obtain ⟨fuel, hf⟩ := h0
  rcases open_ints Try.underlying37 Try.underlying3 (by kernel_rfl) hf with ⟨hcs, _⟩ | ⟨x, l, c, zs, hcs, _, hl, hm, hz, hd, hcell, hws⟩
  · simp [Value.cells] at hcs
    obtain ⟨rfl, rfl, rfl⟩ := hcs
    exact ⟨[], Or.inl ⟨rfl, _, _, rfl⟩, Nat.zero_le _⟩
  · simp [Value.cells] at hcs
    obtain ⟨rfl, rfl, rfl⟩ := hcs
    simp only [if_true] at hz
    have hlen : (zs.take len0).length = len0 := by rw [List.length_take]; omega
    have e : d = .slice (lits .i64 (zs.take len0)) (lits .i64 (zs.drop len0)) := congrArg Prod.fst hd
    subst e
    have b3 : Try.prog.bytesOf 3 = 8 := by kernel_rfl
    have hlw : len0 ≤ 4611686018427387904 := by
      have h := hw (((lits (H := H) .i64 (zs.take len0)).length + (lits (H := H) .i64 (zs.drop len0)).length) * 8) (by
        simp only [DataW.weights, Try.underlying37, List.mem_cons, b3]
        exact Or.inl trivial)
      have e1 : (lits (H := H) .i64 (zs.take len0)).length = len0 := by simp only [lits, List.length_map, List.length_take]; omega
      rw [e1] at h
      unfold reachBytes at h
      omega
    refine ⟨zs.take len0, ?_, by rw [hlen]; exact hlw⟩
    by_cases hpos : len0 = 0
    · subst hpos
      exact Or.inl ⟨by simp, _, _, rfl⟩
    · obtain ⟨b, off, spot⟩ := x
      have hc := hcell 0 (by omega)
      have hspot : spot = none := by simpa [Addr.add] using World.cell?_spot hc
      subst hspot
      refine Or.inr ⟨b, off, cap0, by rw [hlen], by omega, ?_, ?_⟩
      · have := World.block_lt_of_cell? W _ hc
        simpa [addr_add] using this
      · intro j x hx
        obtain ⟨hj, hx2⟩ := List.getElem?_eq_some_iff.1 hx
        rw [hlen] at hj
        have hcj := hcell j (by omega)
        rw [addr_add] at hcj
        rw [hcj]
        have hjs : j < zs.length := by omega
        rw [← hx2]
        simp [List.getD, List.getElem?_eq_getElem hjs]

end Go.Proofs.Ytbbbphlojefgjaa
