/-
  How a node that is handed in lies in memory; no condition.
-/
import Derived.Test.YtjlihidmohokhaaRows
import Derived.Test.YtjlihidmohokhaaKBase
import Derived.ProofKit
import Derived.OpenShut
import Derived.ChangeSlices
import Derived.ChangeSame
import Derived.SizedLaws
namespace Go.Proofs.Ytjlihidmohokhaa
open Go.ChangeShapes Go.WideShapes Go.ChangeAt Go.RowKit Go.Proofs.Ytjlihidmohokhaa.Gl

/-- any four words are a set's -/
theorem word_any (n0 n1 n2 n3 : Nat) (h0 : n0 < 2 ^ 64) (h1 : n1 < 2 ^ 64) (h2 : n2 < 2 ^ 64) (h3 : n3 < 2 ^ 64) : ∃ f : Bs, word f 0 = n0 ∧ word f 1 = n1 ∧ word f 2 = n2 ∧ word f 3 = n3 := by
  refine ⟨fun c => if c < 64 then n0.testBit c else if c < 128 then n1.testBit (c - 64) else if c < 192 then n2.testBit (c - 128) else n3.testBit (c - 192), ?_, ?_, ?_, ?_⟩
  · apply Nat.eq_of_testBit_eq
    intro i
    rw [word_bit]
    by_cases hi : i < 64
    · rw [if_pos (by omega)]; simp [hi]
    · simp [hi]; rw [Nat.testBit_lt_two_pow (Nat.lt_of_lt_of_le h0 (Nat.pow_le_pow_right (by omega) (by omega)))]
  · apply Nat.eq_of_testBit_eq
    intro i
    rw [word_bit]
    by_cases hi : i < 64
    · rw [if_neg (by omega), if_pos (by omega)]; simp [hi]
    · simp [hi]; rw [Nat.testBit_lt_two_pow (Nat.lt_of_lt_of_le h1 (Nat.pow_le_pow_right (by omega) (by omega)))]
  · apply Nat.eq_of_testBit_eq
    intro i
    rw [word_bit]
    by_cases hi : i < 64
    · rw [if_neg (by omega), if_neg (by omega), if_pos (by omega)]; simp [hi]
    · simp [hi]; rw [Nat.testBit_lt_two_pow (Nat.lt_of_lt_of_le h2 (Nat.pow_le_pow_right (by omega) (by omega)))]
  · apply Nat.eq_of_testBit_eq
    intro i
    rw [word_bit]
    by_cases hi : i < 64
    · rw [if_neg (by omega), if_neg (by omega), if_neg (by omega)]; simp [hi]
    · simp [hi]; rw [Nat.testBit_lt_two_pow (Nat.lt_of_lt_of_le h3 (Nat.pow_le_pow_right (by omega) (by omega)))]
theorem addr_far (b o n : Nat) : (⟨b, o, none⟩ : Addr).add n = ⟨b, o + n, none⟩ := by
  unfold Addr.add
  split <;> simp_all
theorem wf_nat {n : Int} (h : (Lit.int .u64 n).wf = true) : ∃ m : Nat, n = m ∧ m < 2 ^ 64 := by
  simp only [Lit.wf, Bool.and_eq_true, decide_eq_true_eq] at h
  have a : IntKind.u64.min = 0 := by decide
  have b : IntKind.u64.max = 18446744073709551615 := by decide
  rw [a, b] at h
  exact ⟨n.toNat, by omega, by omega⟩
theorem both_of {α β : Type} (n : Nat) (P : Nat → α → β → Prop) (h : ∀ i, i < n → ∃ a b, P i a b) : ∃ (xs : List α) (ys : List β), xs.length = n ∧ ys.length = n ∧ ∀ (i : Nat) a b, xs[i]? = some a → ys[i]? = some b → P i a b := by
  induction n with
  | zero => exact ⟨[], [], rfl, rfl, fun i a b ha => by simp at ha⟩
  | succ n ih =>
    obtain ⟨xs, ys, hx, hy, hP⟩ := ih fun i hi => h i (by omega)
    obtain ⟨a, b, hab⟩ := h n (by omega)
    refine ⟨xs ++ [a], ys ++ [b], by simp [hx], by simp [hy], fun i u v hu hv => ?_⟩
    by_cases hi : i < n
    · rw [List.getElem?_append_left (by omega)] at hu hv
      exact hP i u v hu hv
    · rw [List.getElem?_append_right (by omega)] at hu hv
      have h0 : i - xs.length = 0 := by
        by_cases h0 : i - xs.length = 0
        · exact h0
        · rw [List.getElem?_eq_none (by simp; omega)] at hu; cases hu
      have h1 : i - ys.length = 0 := by omega
      rw [h0] at hu
      rw [h1] at hv
      simp at hu hv
      have hin : i = n := by omega
      subst hin hu hv
      exact hab

theorem open_nodeC {H : Type} {enc : TypeId × Value → H} {W : World} : ∀ (N fuel : Nat), fuel ≤ N → ∀ (cs : List Value) (x : DataW H × List MemPlace), DataW.trod enc Try.prog W 0 (fun _ => true) true fuel 26 cs = some x →
    ∃ (c0 c1 c2 c3 c4 c5 c6 c7 : Value) (d : Nd), cs = [c0, c1, c2, c3, c4, c5, c6, c7] ∧ NodeAt W (fun _ => True) (.agg #[c0, c1, c2, c3, c4, c5, c6, c7]) d := by
  have n8 : Try.prog.cellsOf 26 = 8 := by kernel_rfl
  have n4 : Try.prog.cellsOf 23 = 4 := by kernel_rfl
  have n1 : Try.prog.cellsOf 3 = 1 := by kernel_rfl
  have n1u : Try.prog.cellsOf 22 = 1 := by kernel_rfl
  have n1s : Try.prog.cellsOf 24 = 1 := by kernel_rfl
  intro N
  induction N with
  | zero =>
    intro fuel hf cs x h
    obtain rfl : fuel = 0 := by omega
    simp [DataW.trod] at h
  | succ N ih =>
    intro fuel hf cs x h
    obtain ⟨xs, n, rfl, _, hl, hxl, hfl⟩ := DataW.trod_struct Try.underlying26 h
    rw [n8] at hl
    match xs, hxl with
    | [y0, y1, y2, y3, y4], _ =>
      have f0 := hfl 0 _ rfl
      have f1 := hfl 1 _ rfl
      have f2 := hfl 2 _ rfl
      have f3 := hfl 3 _ rfl
      have f4 := hfl 4 _ rfl
      match cs, hl with
      | [c0, c1, c2, c3, c4, c5, c6, c7], _ =>
        simp [n1, n4, n1s] at f0 f1 f2 f3 f4
        obtain ⟨k, e0, _, _⟩ := DataW.trod_int Try.underlying3 f0
        obtain ⟨lo, e6, _, _⟩ := DataW.trod_int Try.underlying3 f3
        obtain ⟨hi, e7, _, _⟩ := DataW.trod_int Try.underlying3 f4
        obtain ⟨us, m, _, _, _, hul, hu⟩ := DataW.trod_array Try.underlying23 f1
        match us, hul with
        | [u0, u1, u2, u3], _ =>
          have g0 := hu 0 (by omega)
          have g1 := hu 1 (by omega)
          have g2 := hu 2 (by omega)
          have g3 := hu 3 (by omega)
          simp [n1u] at g0 g1 g2 g3
          obtain ⟨w0, e1, _, p0⟩ := DataW.trod_int Try.underlying22 g0
          obtain ⟨w1, e2, _, p1⟩ := DataW.trod_int Try.underlying22 g1
          obtain ⟨w2, e3, _, p2⟩ := DataW.trod_int Try.underlying22 g2
          obtain ⟨w3, e4, _, p3⟩ := DataW.trod_int Try.underlying22 g3
          obtain ⟨m0, rfl, q0⟩ := wf_nat p0
          obtain ⟨m1, rfl, q1⟩ := wf_nat p1
          obtain ⟨m2, rfl, q2⟩ := wf_nat p2
          obtain ⟨m3, rfl, q3⟩ := wf_nat p3
          obtain ⟨f, rfl, rfl, rfl, rfl⟩ := word_any m0 m1 m2 m3 q0 q1 q2 q3
          simp at e0 e1 e2 e3 e4 e6 e7
          subst e0 e1 e2 e3 e4 e6 e7
          have hkids : ∃ kids : List Nd, KidsAt W (fun _ => True) c5 kids := by
            rcases DataW.trod_slice Try.underlying24 f2 with ⟨hcs, _⟩ | ⟨a, len, cap, elems, rest, n', hn', hcs, _, _, hlc, _, hlen, hel, _, _⟩
            · simp at hcs
              subst hcs
              exact ⟨[], KidsAt.nil _ _⟩
            · simp at hcs
              subst hcs
              rw [n8] at hel
              have hex : ∀ i, i < len → ∃ (v : Value) (d : Nd), (∃ c0 c1 c2 c3 c4 c5 c6 c7 : Value, v = .agg #[c0, c1, c2, c3, c4, c5, c6, c7] ∧ ∀ (q : Nat), q < 8 → W.cell? ((a.add (i * 8)).add q) = [c0, c1, c2, c3, c4, c5, c6, c7][q]?) ∧ NodeAt W (fun _ => True) v d := by
                intro i hi
                have h := hel i hi
                rw [List.getElem?_eq_getElem (by omega)] at h
                obtain ⟨cs, hcs, ht⟩ := Option.bind_eq_some_iff.1 h
                obtain ⟨_, hcl, hcc⟩ := World.cells?_some hcs
                obtain ⟨c0, c1, c2, c3, c4, c5, c6, c7, d, rfl, hd⟩ := ih n' (by omega) cs _ ht
                exact ⟨_, d, ⟨c0, c1, c2, c3, c4, c5, c6, c7, rfl, fun q hq => hcc q hq⟩, hd⟩
              obtain ⟨vs, ds, hvl, hdl, hvd⟩ := both_of len _ hex
              refine ⟨ds, some a, cap, vs, by rw [hdl], by omega, by omega, fun hne => ?_, fun j v d hv hd => (hvd j v d hv hd).2⟩
              have hpos : 0 < len := by
                have := List.length_pos_iff.2 hne
                omega
              obtain ⟨b, off, spot⟩ := a
              have hsp : spot = none := by
                obtain ⟨v0, hv0⟩ : ∃ v, vs[0]? = some v := ⟨vs[0]'(by omega), List.getElem?_eq_getElem _⟩
                obtain ⟨d0, hd0⟩ : ∃ d, ds[0]? = some d := ⟨ds[0]'(by omega), List.getElem?_eq_getElem _⟩
                obtain ⟨⟨c0, _, _, _, _, _, _, _, _, hc⟩, _⟩ := hvd 0 v0 d0 hv0 hd0
                have := World.cell?_spot (hc 0 (by omega))
                simpa [Addr.add] using this
              subst hsp
              refine ⟨b, off, rfl, trivial, fun j v hv => ?_⟩
              have hj : j < len := by
                have := List.getElem?_eq_some_iff.1 hv
                obtain ⟨h, _⟩ := this
                omega
              obtain ⟨d0, hd0⟩ : ∃ d, ds[j]? = some d := ⟨ds[j]'(by omega), List.getElem?_eq_getElem _⟩
              obtain ⟨⟨c0, c1, c2, c3, c4, c5, c6, c7, rfl, hc⟩, _⟩ := hvd j v d0 hv hd0
              have a0 := hc 0 (by omega)
              have a1 := hc 1 (by omega)
              have a2 := hc 2 (by omega)
              have a3 := hc 3 (by omega)
              have a4 := hc 4 (by omega)
              have a5 := hc 5 (by omega)
              have a6 := hc 6 (by omega)
              have a7 := hc 7 (by omega)
              rw [addr_far, addr_far] at a0 a1 a2 a3 a4 a5 a6 a7
              exact ⟨c0, c1, c2, c3, c4, c5, c6, c7, rfl, a0, a1, a2, a3, a4, a5, a6, a7⟩
          obtain ⟨kids, hk⟩ := hkids
          exact ⟨_, _, _, _, _, _, _, _, .mk k f kids lo hi, rfl, hk.shut k f lo hi⟩
theorem open_node {H : Type} {enc : TypeId × Value → H} {W : World} {v : Value} {d : DataW H} {p : List MemPlace} {base : Nat}
    (hv : Value.okWide Try.prog W .any base 26 v) (h : DataW.Trod enc Try.prog W 0 (fun _ => true) true 26 v d p) : ∃ x : Nd, NodeAt W (fun _ => True) v x := by
  obtain ⟨fuel, hf⟩ := h
  obtain ⟨c0, c1, c2, c3, c4, c5, c6, c7, x, hcs, hx⟩ := open_nodeC fuel fuel (Nat.le_refl _) _ _ hf
  refine ⟨x, ?_⟩
  unfold Value.okWide at hv
  rw [Try.underlying26] at hv
  obtain ⟨cs, rfl, _, _⟩ := hv
  have he : cs = #[c0, c1, c2, c3, c4, c5, c6, c7] := by
    have : cs.toList = [c0, c1, c2, c3, c4, c5, c6, c7] := hcs
    rw [← this]
  rw [he]
  exact hx

end Go.Proofs.Ytjlihidmohokhaa
