/-
  How lists of ints and of ranges that are handed in lie in memory; no condition but those that each states.
-/
import Derived.Test.YtdlmddeiopdioaaDoorRows
import Derived.Test.YtdlmddeiopdioaaDoorLists
import Derived.ProofKit
import Derived.OpenShut
import Derived.ChangeSlices
import Derived.ChangeSame
namespace Go.Proofs.YtdlmddeiopdioaaDoor
open Go.ChangeShapes Go.WideShapes Go.ChangeAt Go.RowKit

/-- a list of ints lies in memory -/
def IntsAt (w : World) (v : Value) (xs : List Int) : Prop :=
  (∀ x, x ∈ xs → -9223372036854775808 ≤ x ∧ x ≤ 9223372036854775807) ∧
  ((xs = [] ∧ ∃ ao cap, v = .slice ao 0 cap) ∨ ∃ b o cap, v = .slice (some ⟨b, o, none⟩) xs.length cap ∧ xs.length ≤ cap ∧ b < w.heap.size ∧ ∀ (j : Nat) x, xs[j]? = some x → w.cell? ⟨b, o + j, none⟩ = some (.int .i64 x))

theorem IntsAt.shape {w : World} {v : Value} {xs : List Int} (h : IntsAt w v xs) : ∃ ao cap, v = .slice ao xs.length cap := by
  rcases h.2 with ⟨rfl, ao, cap, rfl⟩ | ⟨b, o, cap, rfl, _⟩
  · exact ⟨ao, cap, rfl⟩
  · exact ⟨_, cap, rfl⟩
theorem IntsAt.cells {w : World} {v : Value} {xs : List Int} (h : IntsAt w v xs) (hne : xs ≠ []) : ∃ b o cap, v = .slice (some ⟨b, o, none⟩) xs.length cap ∧ xs.length ≤ cap ∧ b < w.heap.size ∧ ∀ (j : Nat) x, xs[j]? = some x → w.cell? ⟨b, o + j, none⟩ = some (.int .i64 x) := by
  rcases h.2 with ⟨rfl, _⟩ | h
  · exact absurd rfl hne
  · exact h

theorem wf_bounds {n : Int} (h : (Lit.int .i64 n).wf = true) : -9223372036854775808 ≤ n ∧ n ≤ 9223372036854775807 := by
  simp [Lit.wf, IntKind.min, IntKind.max, IntKind.signed, IntKind.bits] at h
  omega

theorem open_intsAt {H : Type} {enc : TypeId × Value → H} {W : World} {a0 : Option Addr} {len0 cap0 : Nat} {d : DataW H} {p : List MemPlace}
    (h0 : DataW.Trod enc Tryd.prog W 0 (fun _ => true) true 37 (.slice a0 len0 cap0) d p) :
    ∃ xs : List Int, IntsAt W (.slice a0 len0 cap0) xs ∧ xs.length ≤ maxLen := by
  obtain ⟨fuel, hf⟩ := h0
  rcases open_ints Tryd.underlying37 Tryd.underlying3 (by kernel_rfl) hf with ⟨hcs, _⟩ | ⟨x, l, c, zs, hcs, _, hl, hm, hz, hd, hcell, hws⟩
  · simp [Value.cells] at hcs
    obtain ⟨rfl, rfl, rfl⟩ := hcs
    exact ⟨[], ⟨fun x hx => by simp at hx, Or.inl ⟨rfl, _, _, rfl⟩⟩, Nat.zero_le _⟩
  · simp [Value.cells] at hcs
    obtain ⟨rfl, rfl, rfl⟩ := hcs
    simp only [if_true] at hz
    refine ⟨zs.take len0, ⟨fun x hx => wf_bounds (hws x (List.mem_of_mem_take hx)), ?_⟩, by rw [List.length_take]; omega⟩
    by_cases hpos : len0 = 0
    · subst hpos
      exact Or.inl ⟨by simp, _, _, rfl⟩
    · obtain ⟨b, off, spot⟩ := x
      have hc := hcell 0 (by omega)
      have hspot : spot = none := by simpa [Addr.add] using World.cell?_spot hc
      subst hspot
      have hlen : (zs.take len0).length = len0 := by rw [List.length_take]; omega
      refine Or.inr ⟨b, off, cap0, by rw [hlen], by omega, ?_, ?_⟩
      · have := World.block_lt_of_cell? W _ hc
        simpa [addr_add] using this
      · intro j x hx
        obtain ⟨hj, hx2⟩ := List.getElem?_eq_some_iff.1 hx
        rw [hlen] at hj
        have hcj := hcell j (by omega)
        rw [addr_add] at hcj
        rw [hcj]
        have hjs : j < zs.length := by omega
        rw [← hx2]
        simp [List.getD, List.getElem?_eq_getElem hjs]

theorem list_of {α : Type} (n : Nat) (P : Nat → α → Prop) (h : ∀ i, i < n → ∃ r, P i r) : ∃ xs : List α, xs.length = n ∧ ∀ (i : Nat) r, xs[i]? = some r → P i r := by
  induction n with
  | zero => exact ⟨[], rfl, fun i r hr => by simp at hr⟩
  | succ n ih =>
    obtain ⟨xs, hl, hx⟩ := ih fun i hi => h i (by omega)
    obtain ⟨r, hr⟩ := h n (by omega)
    refine ⟨xs ++ [r], by simp [hl], fun i u hu => ?_⟩
    by_cases hi : i < n
    · rw [List.getElem?_append_left (by omega)] at hu
      exact hx i u hu
    · rw [List.getElem?_append_right (by omega)] at hu
      have : i - xs.length = 0 := by
        by_cases h0 : i - xs.length = 0
        · exact h0
        · rw [List.getElem?_eq_none (by simp; omega)] at hu; cases hu
      rw [this] at hu
      simp at hu
      have hin : i = n := by omega
      subst hin hu
      exact hr

theorem open_ranges {H : Type} {enc : TypeId × Value → H} {W : World} {a0 : Option Addr} {len0 cap0 : Nat} {d : DataW H} {p : List MemPlace}
    (h0 : DataW.Trod enc Tryd.prog W 0 (fun _ => true) true 22 (.slice a0 len0 cap0) d p) :
    ∃ xs : List (Int × Int), RngAt W (.slice a0 len0 cap0) xs ∧ xs.length ≤ maxLen := by
  obtain ⟨fuel, hf⟩ := h0
  rcases DataW.trod_slice Tryd.underlying22 hf with ⟨hcs, _⟩ | ⟨x, l, c, elems, rest, n, _, hcs, _, hb, hl, hm, hlen, hel, _, _⟩
  · simp [Value.cells] at hcs
    obtain ⟨rfl, rfl, rfl⟩ := hcs
    exact ⟨[], Or.inl ⟨rfl, _, _, rfl⟩, Nat.zero_le _⟩
  · simp [Value.cells] at hcs
    obtain ⟨rfl, rfl, rfl⟩ := hcs
    have c39 : Tryd.prog.cellsOf 39 = 2 := by kernel_rfl
    have c3 : Tryd.prog.cellsOf 3 = 1 := by kernel_rfl
    rw [c39] at hel
    have hex : ∀ i, i < len0 → ∃ r : Int × Int, W.cell? (x.add (i * 2)) = some (.int .i64 r.1) ∧ W.cell? ((x.add (i * 2)).add 1) = some (.int .i64 r.2) := by
      intro i hi
      have h := hel i hi
      rw [List.getElem?_eq_getElem (by omega)] at h
      obtain ⟨cs, hcs, ht⟩ := Option.bind_eq_some_iff.1 h
      obtain ⟨_, hcl, hcc⟩ := World.cells?_some hcs
      obtain ⟨y0, y1, m, _, _, h0, h1⟩ := trod_struct2 Tryd.underlying39 ht
      rw [c3] at h0 h1
      obtain ⟨f, e0, _⟩ := DataW.trod_int Tryd.underlying3 h0
      obtain ⟨t, e1, _⟩ := DataW.trod_int Tryd.underlying3 h1
      match cs, hcl, e0, e1, hcc with
      | [u0, u1], _, e0, e1, hcc =>
        simp at e0 e1
        have d0 := hcc 0 (by omega)
        have d1 := hcc 1 (by omega)
        refine ⟨(f, t), ?_, ?_⟩
        · have : (x.add (i * 2)).add 0 = x.add (i * 2) := by simp [Addr.add]
          rw [this] at d0
          rw [d0, e0]; rfl
        · rw [d1, e1]; rfl
    obtain ⟨xs, hxl, hxs⟩ := list_of len0 _ hex
    refine ⟨xs, ?_, by omega⟩
    by_cases hpos : len0 = 0
    · subst hpos
      exact Or.inl ⟨List.eq_nil_of_length_eq_zero hxl, _, _, rfl⟩
    · obtain ⟨b, off, spot⟩ := x
      obtain ⟨r0, hr0⟩ : ∃ r, xs[0]? = some r := ⟨xs[0]'(by omega), List.getElem?_eq_getElem _⟩
      have hc := (hxs 0 r0 hr0).1
      have hspot : spot = none := by simpa [Addr.add] using World.cell?_spot hc
      subst hspot
      refine Or.inr ⟨b, off, cap0, by rw [hxl], by omega, ?_, ?_⟩
      · have := World.block_lt_of_cell? W _ hc
        simpa [addr_add] using this
      · intro j r hr
        have h := hxs j r hr
        rw [addr_add, addr_add] at h
        exact h

end Go.Proofs.YtdlmddeiopdioaaDoor
