
/-
  What the program's apply.Do and apply.Fits answer at any steps and lines that lie in memory: what comes of lines by steps, and whether it can be done; conditions: the lists' and texts' lengths.
-/
import Derived.Test.YtophhgbkcdeidaaADone
namespace Go.Proofs.Ytophhgbkcdeidaa
open Go.RowKit Go.Proofs.Ytophhgbkcdeidaa.Ln Go.Proofs.Ytophhgbkcdeidaa.Ol

theorem doo_fit {xs : List Oq} {old a : List Tx} (hf : Fit xs) (hfo : FitT old) (h : doo xs old = some a) : FitT a := by
  obtain ⟨_, _, out, p, hd, rfl, _, _⟩ := doo_some h
  intro t ht
  rcases List.mem_append.1 ht with h | h
  · rcases dsl_mem old xs out p hd t h with h | ⟨x, hx, rfl⟩
    · exact hfo t h
    · exact hf x hx
  · exact hfo t (List.mem_of_mem_drop h)

set_option maxHeartbeats 1000000 in
theorem fits_any (v : Value) (xs : List Oq) (u : Value) (old : List Tx) (w : World) (hX : OpsAt w v xs) (hY : RowAt w u old) (hl : xs.length + old.length ≤ 4398046511104) (hf : Fit xs) (hfo : FitT old) :
    Calls Try.prog 15 #[v, u] w fun e w' => e = .returned (.bool (doo xs old).isSome) ∧ Below w.heap.size w w' := by
  have HD := hidden (done_any v xs u old w hX hY hl hf hfo)
  obtain ⟨ao, cap, rfl⟩ := hX.shape
  obtain ⟨bo, cap2, rfl⟩ := hY.shape
  clear hX hY hf hfo
  generalize doo xs old = r at *
  go_enter Try.func15, Try.ntmps15
  go_wp2_with fail
  refine HD.out.mono ?_
  rintro e w2 ⟨q, rfl, ho, hb⟩
  have HB := hidden hb
  clear hb ho
  go_wp2_with fail
  go_ret
  exact ⟨rfl, HB.out⟩

theorem owns_formT {W : World} {B : Nat} {v : Value} {l : List Tx} (h : W.ownsRow B 9 1 v l.length (l.map S)) : ∃ ao cap, v = .slice ao l.length cap ∧ ∀ (j : Nat) x, l[j]? = some x → ∃ g, ao = some ⟨g, 0, none⟩ ∧ l.length ≤ cap ∧ B ≤ g ∧ g < W.heap.size := by
  rcases h.2 with ⟨e, h0⟩ | ⟨g', cap, cur, hv, hB, hg, hc, _⟩
  · have : l = [] := List.eq_nil_of_length_eq_zero h0
    subst this
    exact ⟨none, 0, e, fun j x hx => by simp at hx⟩
  · exact ⟨_, cap, hv, fun j x hx => ⟨g', rfl, hc, hB, (Array.getElem?_eq_some_iff.1 hg).1⟩⟩
theorem owns_cellT {W : World} {B g n cp : Nat} {l : List Tx} (h : W.ownsRow B 9 1 (.slice (some ⟨g, 0, none⟩) n cp) n (l.map S)) {j : Nat} {x : Tx} (hx : l[j]? = some x) : W.cell? ⟨g, j, none⟩ = some (.string ⟨x.toArray⟩) := by
  have := h.cells (g := g) rfl j (S x) (by simp [hx])
  rw [addr_add, Nat.zero_add] at this
  exact this
theorem owns_thawT {W : World} {B g n cp : Nat} {cs : List Value} (h : W.ownsRow B 9 1 (.slice (some ⟨g, 0, none⟩) n cp) n cs) (i : Nat) : W.frozen? ⟨g, i, none⟩ = false := by
  rcases h.2 with ⟨e, _⟩ | ⟨g', cap', cur, hv, hB, hg, _⟩
  · cases e
  · cases hv; simp [World.frozen?, hg]
/-- a text of a row is laid anew -/
theorem owns_setT {W : World} {B g n cp j : Nat} {l : List Tx} (x : Tx) (h : W.ownsRow B 9 1 (.slice (some ⟨g, 0, none⟩) n cp) n (l.map S)) (hj : j < l.length) : (W.setCell ⟨g, j, none⟩ (.string ⟨x.toArray⟩)).ownsRow B 9 1 (.slice (some ⟨g, 0, none⟩) n cp) n ((l.set j x).map S) := by
  rcases h.2 with ⟨e, _⟩ | ⟨g', cap', cur, hv, hB, hg, hc, hm, hs, ht⟩
  · cases e
  · cases hv
    refine ⟨by have := h.1; simpa using this, Or.inr ⟨g, cp, cur.setIfInBounds j (.string ⟨x.toArray⟩), rfl, hB, ?_, hc, hm, by simpa using hs, ?_⟩⟩
    · simp [World.setCell, Array.getElem?_modify, hg]
    · have e1 : (l.set j x).map S = (l.map S).set j (S x) := by rw [List.map_set]
      have hjc : j < n * 1 := by have := h.1; simp at this; omega
      rw [e1, ← ht, Array.toList_setIfInBounds, List.take_set]; rfl
theorem set_same {α : Type} {l : List α} {j : Nat} {x : α} (h : l[j]? = some x) : l.set j x = l := by
  obtain ⟨hj, e⟩ := List.getElem?_eq_some_iff.1 h
  rw [← e]; exact List.set_getElem_self hj

set_option maxHeartbeats 2000000 in
theorem do_any (v : Value) (xs : List Oq) (u : Value) (old : List Tx) (w : World) (hX : OpsAt w v xs) (hY : RowAt w u old) (hl : xs.length + old.length ≤ 4398046511104) (hf : Fit xs) (hfo : FitT old) :
    Calls Try.prog 12 #[v, u] w fun e w' => Ans w (doo xs old) e w' := by
  have HD := hidden (done_any v xs u old w hX hY hl hf hfo)
  have HFR := hidden (show FitT ((doo xs old).getD []) by
    cases h : doo xs old with
    | none => intro t ht; cases ht
    | some a => exact doo_fit hf hfo h)
  have HLR := hidden (show ((doo xs old).getD []).length ≤ 4398046511104 by
    cases h : doo xs old with
    | none => simp
    | some a => have := doo_len h; show a.length ≤ _; omega)
  obtain ⟨ao, cap, rfl⟩ := hX.shape
  obtain ⟨bo, cap2, rfl⟩ := hY.shape
  clear hX hY hf hfo
  generalize doo xs old = r at *
  go_enter Try.func12, Try.ntmps12
  go_wp2_with fail
  refine HD.out.mono ?_
  rintro e w2 ⟨q, rfl, ho, hb⟩
  obtain ⟨rs, hrs⟩ : ∃ rs, r.getD [] = rs := ⟨_, rfl⟩
  have HRS := hidden hrs
  rw [hrs] at ho HFR HLR
  have HLR := hidden (show rs.length ≤ 4398046511104 from hrs ▸ HLR.out)
  have HFR := hidden (show FitT rs from hrs ▸ HFR.out)
  have hlr := HLR.out
  obtain ⟨co, cp, rfl, hco⟩ := owns_formT ho
  have HCO := hidden hco
  have HB := hidden hb
  have HO := hidden ho
  clear hb ho hrs hco
  go_wp2_with fail
  go_loopw [18] (fun i wr => ∃ k : Nat, k ≤ rs.length ∧ i = .int .i64 k ∧ Hid (wr.ownsRow w.heap.size 9 1 (.slice co rs.length cp) rs.length (rs.map S) ∧ Below w.heap.size w wr)) (fun i _ => rs.length - (intOf i).toNat)
  case atStart => exact ⟨0, Nat.zero_le _, rfl, HO.out, HB.out⟩
  case round =>
    obtain ⟨k, hk, rfl, hst⟩ := hrel
    by_cases hlt : k < rs.length
    · obtain ⟨x, hx⟩ : ∃ x, rs[k]? = some x := ⟨rs[k], List.getElem?_eq_getElem hlt⟩
      obtain ⟨g, hco, hcp, hgB, hgl⟩ := HCO.out k x hx
      subst hco
      have hcell := owns_cellT hst.out.1 hx
      have HX := hidden hx
      have HFX := hidden (HFR.out x (List.mem_of_getElem? hx))
      have hws := hst.out.2.size
      have hg2 : g < wr.heap.size := by
        rcases hst.out.1.2 with ⟨e, _⟩ | ⟨g', cap', cur, hv, hB, hg, _⟩
        · cases e
        · cases hv; exact (Array.getElem?_eq_some_iff.1 hg).1
      clear hx
      go_wp2_with fail
      refine (clone_any x _ (by have := HFX.out; omega)).mono ?_
      rintro e w3 ⟨rfl, hb3⟩
      have HO3 := hidden (owns_later hst.out.1 hb3)
      have HB3 := hidden (hst.out.2.trans (hb3.mono hst.out.2.size))
      have hcell3 := owns_cellT HO3.out HX.out
      have hthaw3 := owns_thawT HO3.out k
      have HS := hidden (show (w3.setCell ⟨g, k, none⟩ (.string ⟨x.toArray⟩)).ownsRow w.heap.size 9 1 (.slice (some ⟨g, 0, none⟩) rs.length cp) rs.length (rs.map S) ∧ Below w.heap.size w (w3.setCell ⟨g, k, none⟩ (.string ⟨x.toArray⟩)) by
        refine ⟨?_, HB3.out.setCell (p := ⟨g, k, none⟩) hgB _⟩
        have := owns_setT x HO3.out (j := k) hlt
        rw [set_same HX.out] at this; exact this)
      clear hb3
      go_wp2_with fail
      go_roundw
      case rel => exact ⟨k + 1, by omega, by go_num, HS.out⟩
      case measure => simp [intOf]; omega
    · go_wp2_with fail
      go_ret2
      exact ⟨_, rfl, by rw [HRS.out]; exact hst.out.1, hst.out.2⟩

end Go.Proofs.Ytophhgbkcdeidaa
