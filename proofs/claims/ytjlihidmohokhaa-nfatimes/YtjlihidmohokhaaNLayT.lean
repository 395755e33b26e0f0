/-
  What a node is laid out as, and a whole machine; conditions: how great the node is, and that it may be.
-/
import Derived.Test.YtjlihidmohokhaaNLay
namespace Go.Proofs.Ytjlihidmohokhaa
open Go.RowKit Go.Proofs.Ytjlihidmohokhaa.Gl

theorem tk5 (s : Tx) (f : Bs) (d : Nd) (lo hi : Int) (i j : Nat) : tk s (.mk 5 f [d] lo hi) i j ↔ ∃ n : Nat, lo ≤ n ∧ (hi < 0 ∨ (n : Int) ≤ hi) ∧ iterR (tk s d) n i j := by
  have hR : (fun a b => altK s [d] a b) = tk s d := by
    funext a b
    apply propext
    rw [altK, altK]
    simp
  rw [tk, hR]
  simp
theorem set_app {α : Type} (a b : List α) (k : Nat) (x : α) : (a ++ b).set (a.length + k) x = a ++ b.set k x := by
  induction a with
  | nil => simp
  | cons y l ih => rw [List.length_cons, show l.length + 1 + k = (l.length + k) + 1 by omega, List.cons_append, List.set_cons_succ, ih, List.cons_append]
theorem cells7_set (ss : List Sta) : ∀ (i : Nat) (t : Sta) (a : Nat), ss[i]? = some t → cells7 (ss.set i ⟨t.kind, t.set, a, t.other⟩) = (cells7 ss).set (i * 7 + 5) (.int .i64 a) := by
  induction ss with
  | nil => intro i t a h; simp at h
  | cons x l ih =>
    intro i t a h
    cases i with
    | zero =>
      simp at h
      subst h
      rfl
    | succ i =>
      rw [List.set_cons_succ, cells7, cells7, ih i t a (by simpa using h), show (i + 1) * 7 + 5 = (flat7 x).length + (i * 7 + 5) by rw [show (flat7 x).length = 7 from rfl]; omega, set_app]
/-- where a state goes on is turned -/
theorem MAt.setNext {W : World} {P B g n c : Nat} {ss : List Sta} {i a : Nat} {t : Sta} (h : MAt W P B (.slice (some ⟨g, 0, none⟩) n c) ss) (ht : ss[i]? = some t) :
    MAt (W.setCell ⟨g, i * 7 + 5, none⟩ (.int .i64 a)) P B (.slice (some ⟨g, 0, none⟩) n c) (ss.set i ⟨t.kind, t.set, a, t.other⟩) ∧ Mg P (.slice (some ⟨g, 0, none⟩) n c) (.slice (some ⟨g, 0, none⟩) n c) W (W.setCell ⟨g, i * 7 + 5, none⟩ (.int .i64 a)) := by
  have hgB := (h.own.lt g rfl)
  have hPB := h.lt
  have hi := (List.getElem?_eq_some_iff.1 ht).1
  refine ⟨⟨(heap_setCell_other W ⟨g, i * 7 + 5, none⟩ P _ (by show P ≠ g; omega)).trans h.blk, ⟨?_, ?_⟩, h.lt⟩, ?_⟩
  · rw [cells7_len]
  · rcases h.own.2 with ⟨e, _⟩ | ⟨g', cap, cur, hv, hg, hh, hnc, hcm, hcs, hct⟩
    · cases e
    · cases hv
      refine Or.inr ⟨g, c, cur.setIfInBounds (i * 7 + 5) (.int .i64 a), by rw [List.length_set], hg, ?_, by rw [List.length_set]; exact hnc, hcm, by rw [Array.size_setIfInBounds]; exact hcs, ?_⟩
      · have := heap_setCell_same W g (i * 7 + 5) cur 67 (.int .i64 a) hh
        exact this
      · rw [cells7_set ss i t a ht, List.length_set, Array.toList_setIfInBounds, ← hct]
        rw [List.take_set]
  · refine ⟨rfl, rfl, rfl, by simp [World.setCell], fun k _ _ h2 => heap_setCell_other W ⟨g, i * 7 + 5, none⟩ k _ (fun e => h2 (by rw [e]; rfl)), Or.inl rfl⟩
/-- a state's cells -/
theorem MAt.cell {W : World} {P B g n c : Nat} {ss : List Sta} {i : Nat} {t : Sta} (h : MAt W P B (.slice (some ⟨g, 0, none⟩) n c) ss) (ht : ss[i]? = some t) (k : Nat) (hk : k < 7) (u : Value) (hu : (flat7 t)[k]? = some u) : W.cell? ⟨g, i * 7 + k, none⟩ = some u := by
  have h1 := cells7_at ss i k t ht hk
  have h2 := h.own.cells (g := g) rfl (i * 7 + k) u (by rw [h1]; exact hu)
  have h3 : (⟨g, 0, none⟩ : Addr).add (i * 7 + k) = ⟨g, i * 7 + k, none⟩ := by
    unfold Addr.add
    split <;> simp_all
  rw [h3] at h2
  exact h2
theorem MAt.thawed {W : World} {P B g n c : Nat} {ss : List Sta} (h : MAt W P B (.slice (some ⟨g, 0, none⟩) n c) ss) (k : Nat) : W.frozen? ⟨g, k, none⟩ = false := by
  rcases h.own.2 with ⟨e, _⟩ | ⟨g', cap, cur, hv, hg, hh, hnc, hcm, hcs, hct⟩
  · cases e
  · cases hv
    simp [World.frozen?, hh]
theorem MAt.form {W : World} {P B : Nat} {mv : Value} {ss : List Sta} (h : MAt W P B mv ss) (hne : ss.length ≠ 0) : ∃ g c, mv = .slice (some ⟨g, 0, none⟩) ss.length c ∧ ss.length ≤ c := by
  rcases h.own.2 with ⟨_, e⟩ | ⟨g', cap, cur, hv, hg, hh, hnc, hcm, hcs, hct⟩
  · exact absurd e hne
  · exact ⟨g', cap, hv, hnc⟩
theorem Blk.mg {W W' : World} {b P : Nat} {mv mv' : Value} {c0 c1 c2 c3 c4 c5 c6 c7 : Value} (h : Blk W b c0 c1 c2 c3 c4 c5 c6 c7) (hg : Mg P mv mv' W W') (h1 : b ≠ P) (h2 : some b ≠ mv.ownBlock) : Blk W' b c0 c1 c2 c3 c4 c5 c6 c7 := h.keep (hg.same b h.lt h1 h2)

/-- may come -/
theorem upTo_step (R : Nat → Nat → Prop) (k i j : Nat) : ((∃ m, R i m ∧ ∃ n, n ≤ k ∧ iterR R n m j) ∨ i = j) ↔ ∃ n, n ≤ k + 1 ∧ iterR R n i j := by
  constructor
  · rintro (⟨m, h, n, hn, h2⟩ | rfl)
    · exact ⟨n + 1, by omega, m, h, h2⟩
    · exact ⟨0, by omega, rfl⟩
  · rintro ⟨n, hn, h⟩
    cases n with
    | zero => exact Or.inr h
    | succ n =>
      obtain ⟨m, h1, h2⟩ := h
      exact Or.inl ⟨m, h1, n, by omega, h2⟩
theorem must_step (R R0 : Nat → Nat → Prop) (k i j : Nat) : (∃ m, R i m ∧ ∃ p, iterR R k m p ∧ R0 p j) ↔ ∃ p, iterR R (k + 1) i p ∧ R0 p j := by
  constructor
  · rintro ⟨m, h, p, h1, h2⟩; exact ⟨p, ⟨m, h, h1⟩, h2⟩
  · rintro ⟨p, ⟨m, h, h1⟩, h2⟩; exact ⟨m, h, p, h1, h2⟩
theorem times_any (R : Nat → Nat → Prop) (L i j : Nat) : (∃ p, iterR R L i p ∧ ∃ k, iterR R (k + 1) p j) ↔ ∃ n : Nat, (L : Int) + 1 ≤ n ∧ ((-1 : Int) < 0 ∨ (n : Int) ≤ -1) ∧ iterR R n i j := by
  constructor
  · rintro ⟨p, h1, k, h2⟩
    exact ⟨L + (k + 1), by omega, Or.inl (by omega), (iterR_add R L (k + 1) i j).2 ⟨p, h1, h2⟩⟩
  · rintro ⟨n, hn, _, h⟩
    obtain ⟨k, rfl⟩ : ∃ k, n = L + (k + 1) := ⟨n - L - 1, by omega⟩
    obtain ⟨p, h1, h2⟩ := (iterR_add R L (k + 1) i j).1 h
    exact ⟨p, h1, k, h2⟩
theorem times_some (R : Nat → Nat → Prop) (L D i j : Nat) : (∃ p, iterR R L i p ∧ ∃ n, n ≤ D ∧ iterR R n p j) ↔ ∃ n : Nat, (L : Int) ≤ n ∧ ((L : Int) + D < 0 ∨ (n : Int) ≤ L + D) ∧ iterR R n i j := by
  constructor
  · rintro ⟨p, h1, k, hk, h2⟩
    exact ⟨L + k, by omega, Or.inr (by omega), (iterR_add R L k i j).2 ⟨p, h1, h2⟩⟩
  · rintro ⟨n, hn, hh, h⟩
    obtain ⟨k, rfl⟩ : ∃ k, n = L + k := ⟨n - L, by omega⟩
    obtain ⟨p, h1, h2⟩ := (iterR_add R L k i j).1 h
    exact ⟨p, h1, k, by omega, h2⟩
/-- what is known while a kid is laid again and again -/
structure LT (P B : Nat) (mv : Value) (ss : List Sta) (next : Nat) (R : Tx → Nat → Nat → Prop) (K : Nat) (w : World) (q : Nat) (mv' : Value) (ss' : List Sta) (wr : World) : Prop where
  m : MAt wr P B mv' ss'
  g : Mg P mv mv' w wr
  l : Laid ss ss' R next q
  len : ss'.length ≤ ss.length + K
theorem LT.ans {P B : Nat} {mv : Value} {ss : List Sta} {next : Nat} {R : Tx → Nat → Nat → Prop} {K K' : Nat} {w w0 : World} {q : Nat} {mv' : Value} {ss' : List Sta} {wr : World} (h : LT P B mv ss next R K w q mv' ss' wr) (hb : Below w0.heap.size w0 w) (hK : K ≤ K') {R' : Tx → Nat → Nat → Prop} (hR : ∀ s i j, R s i j ↔ R' s i j) : LayAns P B mv ss next R' K' w0 (.returned (.int .i64 q)) wr :=
  ⟨q, mv', ss', rfl, h.m, (Mg.of_below hb).trans h.g, h.l.iff hR, Nat.le_trans h.len (by omega)⟩

set_option maxHeartbeats 8000000 in
theorem layTimes_of (d : Nd) (hok : LayOk d) (m : Nat) (hr : rqN d m = true) (f : Bs) (lo hi : Int) (hti : okTimes lo hi = true) (v : Value) (P B : Nat) (mv : Value) (ss : List Sta) (next : Nat) (w : World) (hv : NodeAt w (· < P) v (.mk 5 f [d] lo hi)) (hm : MAt w P B mv ss) (hn : next < ss.length) (hB : B ≤ w.heap.size) (hsz : ss.length + 2 * sizeN (.mk 5 f [d] lo hi) ≤ 1000000) :
    Calls Try.prog 52 #[.pointer (some ⟨P, 0, none⟩), v, .int .i64 next] w (LayAns P B mv ss next (fun s => tk s (.mk 5 f [d] lo hi)) (2 * sizeN (.mk 5 f [d] lo hi) - 1) w) := by
  obtain ⟨kv, rfl, hk⟩ := hv.open
  obtain ⟨a, cap, rfl, hcap⟩ := hk.form
  obtain ⟨b, o, z, y0, y1, y2, y3, sa, sn, sc, lo2, hi2, rfl, hA, hbl, hN, q0, q1, q2, q3, q4, q5, q6, q7⟩ := hk.kid (j := 0) (d := d) rfl
  rw [Nat.zero_mul, Nat.add_zero] at q0 q1 q2 q3 q4 q5 q6 q7
  have hP := hm.plt
  have HM := hidden hm
  have HN := hidden hN
  have HOK := hidden hok
  have HR := hidden hr
  have hpos := sizeN_pos' d
  obtain ⟨u, hu⟩ : ∃ u, u = 2 * sizeN d := ⟨_, rfl⟩
  obtain ⟨r, hrr⟩ : ∃ r, r = (max (max lo hi) 1).toNat := ⟨_, rfl⟩
  have hsx : 2 * sizeN (.mk 5 f [d] lo hi) = 2 + r * u := by
    rw [sizeN, show sizes [d] = sizeN d from by rw [sizes, sizes]; rfl, show reps 5 lo hi = r from by rw [hrr]; rfl, hu]
    rw [Nat.mul_add, ← Nat.mul_assoc, Nat.mul_comm 2 r, Nat.mul_assoc]
  rw [show 2 * sizeN (.mk 5 f [d] lo hi) - 1 = r * u + 1 by omega]
  rw [hsx] at hsz
  have h01 : 1 ≤ r := by omega
  have hru : u ≤ r * u := by have := Nat.mul_le_mul_right u h01; omega
  have hown : ∀ k, mv.ownBlock = some k → k < w.heap.size := fun k e => (hm.own.lt k e).2
  have HB0 := hidden (Below.refl w.heap.size w)
  have HC0 := hidden (Blk.new w (.int .i64 5) (.int .u64 (word f 0)) (.int .u64 (word f 1)) (.int .u64 (word f 2)) (.int .u64 (word f 3)) (.slice (some ⟨b, o, none⟩) 1 cap) (.int .i64 lo) (.int .i64 hi))
  unfold okTimes at hti
  simp only [Bool.and_eq_true, Bool.or_eq_true, decide_eq_true_eq, beq_iff_eq] at hti
  have HU := hidden hu
  have HRR := hidden hrr
  clear hok hr hv hk hN hm hsx hu hrr
  unfold nodeV
  go_enter Try.func52, Try.ntmps52
  go_wp2_with fail
  go_region
  generalize hW3 : World.drew _ = W3
  have HB3 := hidden (show Below w.heap.size w W3 by rw [← hW3]; (with_reducible (repeat (first | exact HB0.out | apply bel_alloc | apply bel_put | apply bel_set | apply Below.drew | apply below_drewN | omega))))
  have HK3 := hidden (show Blk W3 (w.heap.size + 1) (.int .i64 z) (.int .u64 y0) (.int .u64 y1) (.int .u64 y2) (.int .u64 y3) (.slice sa sn sc) (.int .i64 lo2) (.int .i64 hi2) by rw [← hW3]; apply Blk.drew; exact Blk.newAt (by simp))
  have HC3 := hidden (show Blk W3 w.heap.size (.int .i64 5) (.int .u64 (word f 0)) (.int .u64 (word f 1)) (.int .u64 (word f 2)) (.int .u64 (word f 3)) (.slice (some ⟨b, o, none⟩) 1 cap) (.int .i64 lo) (.int .i64 hi) by rw [← hW3]; (with_reducible (repeat (first | exact HC0.out | exact Blk.newAt (by simp) | apply Blk.alloc | apply Blk.put | apply Blk.putOther | apply Blk.other | apply Blk.drewN | apply Blk.drew | omega))))
  have HM3 := hidden (HM.out.later HB3.out)
  have hBW3 : Hid (w.heap.size + 2 ≤ W3.heap.size) := by have := HK3.out.lt; show w.heap.size + 2 ≤ W3.heap.size; omega
  obtain ⟨c0, c1, c2, c3, c4, c5, c6, c7⟩ := HC3.out.cells
  have hcl := HC3.out.lt
  clear hW3 q0 q1 q2 q3 q4 q5 q6 q7
  obtain ⟨L, rfl⟩ : ∃ L : Nat, lo = L := ⟨lo.toNat, by omega⟩
  by_cases hneg : hi < 0
  · obtain rfl : hi = -1 := by omega
    have hB4 : B ≤ W3.heap.size := by have := HB3.out.size; omega
    have hl4 : ss.length < 1048576 := by omega
    go_wp2_with fail
    refine (add_plain 1 0 next P B mv ss _ HM3.out hl4 hB4).mono ?_
    rintro e w4 ⟨mv4, rfl, hM4, hG4⟩
    have HK4 := hidden (HK3.out.mg hG4 (by omega) (fun e => by have := hown _ e.symm; omega))
    have HC4 := hidden (HC3.out.mg hG4 (by omega) (fun e => by have := hown _ e.symm; omega))
    obtain ⟨k0, k1, k2, k3, k4, k5, k6, k7⟩ := HK4.out.cells
    have hkl := HK4.out.lt
    have HN4 := hidden (HN.out.under (((HB3.out.mono (Nat.le_of_lt hP)).trans (hG4.below HM3.out)) : Below P w w4))
    have HM4 := hidden hM4
    have HG4 := hidden hG4
    have hB5 : B ≤ w4.heap.size := by have := hG4.size; omega
    clear hM4 hG4 c0 c1 c2 c3 c4 c5 c6 c7
    go_wp2_with fail
    refine (HOK.out m HR.out _ P B mv4 _ ss.length _ HN4.out HM4.out (by simp) hB5 (by rw [List.length_append]; show ss.length + 1 + _ ≤ _; have := HU.out; omega)).mono ?_
    rintro e w5 ⟨a5, mv5, ss5, rfl, hM5, hG5, hL5, hlen5⟩
    have hll5 := hL5.len
    rw [List.length_append] at hll5 hlen5
    replace hll5 : ss.length + 1 ≤ ss5.length := hll5
    replace hlen5 : ss5.length ≤ ss.length + 1 + (2 * sizeN d - 1) := hlen5
    obtain ⟨g5, cp5, rfl, hcp5⟩ := hM5.form (by omega)
    have ht : ss5[ss.length]? = some ⟨1, none_, 0, next⟩ := by rw [hL5.old _ (by simp), getElem?_snoc_last]
    have x5 : w5.cell? ⟨g5, ss.length * 7 + 5, none⟩ = some (.int .i64 0) := hM5.cell ht 5 (by decide) _ rfl
    have f5 := hM5.thawed (ss.length * 7 + 5)
    have p5 : w5.cell? ⟨P, 0, none⟩ = some (.slice (some ⟨g5, 0, none⟩) ss5.length cp5) := by simp [World.cell?, hM5.blk]
    have hg5 := (hM5.own.lt g5 rfl)
    have hPB := hM5.lt
    have HSN := hidden (hM5.setNext (a := a5) ht)
    have HST := hidden (Laid.star none_ hn hL5)
    have HG5 := hidden (HG4.out.trans hG5)
    have HKX := hidden (fun e => by
        rcases HG4.out.own with h9 | ⟨g9, h9, hg9⟩
        · rw [h9] at e; have := hown _ e; omega
        · rw [h9] at e; cases e; have := hBW3.out; omega : mv4.ownBlock = some (w.heap.size + 1) → False)
    have HKY := hidden (fun e => by
        rcases HG4.out.own with h9 | ⟨g9, h9, hg9⟩
        · rw [h9] at e; have := hown _ e; omega
        · rw [h9] at e; cases e; have := hBW3.out; omega : mv4.ownBlock = some w.heap.size → False)
    have HK5 := hidden (HK4.out.mg hG5 (by omega) (fun e => HKX.out e.symm))
    have HC5 := hidden (HC4.out.mg hG5 (by omega) (fun e => HKY.out e.symm))
    obtain ⟨c0, c1, c2, c3, c4, c5, c6, c7⟩ := HC5.out.cells
    have hcl5 := HC5.out.lt
    have hne5 : w.heap.size + 1 ≠ g5 ∧ w.heap.size ≠ g5 := by
      have h9 := HG5.out.own
      rcases h9 with h9 | ⟨g9, h9, hg9⟩
      · have := hown g5 h9.symm; omega
      · obtain rfl : g5 = g9 := by simpa [Value.ownBlock] using h9
        have := hBW3.out; omega
    clear hM5 hG5 hL5 k0 k1 k2 k3 k4 k5 k6 k7
    have hai : (ss.length : Int) < ss5.length := by omega
    by_cases hL0 : L = 0
    · subst hL0
      go_wp2_with fail
      go_ret
      refine ⟨ss.length, _, _, rfl, HSN.out.1, (Mg.of_below HB3.out).trans (HG5.out.trans HSN.out.2), HST.out.1.iff (fun s i j => ?_), ?_⟩
      · rw [tk5]
        constructor
        · rintro ⟨n, h⟩; exact ⟨n, by omega, Or.inl (by omega), h⟩
        · rintro ⟨n, _, _, h⟩; exact ⟨n, h⟩
      · rw [List.length_set]; have := HU.out; omega
    · obtain ⟨M, rfl⟩ : ∃ M, L = M + 1 := ⟨L - 1, by omega⟩
      have hLi : ¬ ((M + 1 : Nat) : Int) = 0 := by omega
      have hru2 : u + M * u ≤ r * u := by
        have h9 := Nat.mul_le_mul_right u (show M + 1 ≤ r by have := HRR.out; omega)
        rw [Nat.succ_mul] at h9; omega
      have HS0 := hidden (show LT P B mv ss next (fun s i j => ∃ p, iterR (tk s d) 0 i p ∧ (fun s i j => ∃ k, iterR (tk s d) (k + 1) i j) s p j) (u + 0 * u) W3 a5 (.slice (some ⟨g5, 0, none⟩) ss5.length cp5) (ss5.set ss.length ⟨1, none_, a5, next⟩) (w5.setCell ⟨g5, ss.length * 7 + 5, none⟩ (.int .i64 a5)) from ⟨HSN.out.1, HG5.out.trans HSN.out.2, HST.out.2.iff (fun s i j => ⟨fun h => ⟨i, rfl, h⟩, fun ⟨p, e, h⟩ => by rw [show i = p from e]; exact h⟩), by rw [List.length_set]; have := HU.out; omega⟩)
      have HBK0 := hidden (show Blk (w5.setCell ⟨g5, ss.length * 7 + 5, none⟩ (.int .i64 a5)) (w.heap.size + 1) (.int .i64 z) (.int .u64 y0) (.int .u64 y1) (.int .u64 y2) (.int .u64 y3) (.slice sa sn sc) (.int .i64 lo2) (.int .i64 hi2) from HK5.out.other hne5.1)
      go_wp2_with fail
      generalize hW6 : World.setCell _ _ _ = W6 at *
      clear hW6 x5 f5 p5 c0 c1 c2 c3 c4 c5 c6 c7 HSN HST
      go_loopw [9, 47] (fun nx i wr => nx = .int .i64 a5 ∧ i = .int .i64 0 ∧ wr = W6) (fun _ _ _ => 0)
      case atStart => exact ⟨rfl, rfl, rfl⟩
      case round =>
        obtain ⟨rfl, rfl, rfl⟩ := hrel
        have hz0 : ¬ (0 : Int) < -1 - ((M : Int) + 1) := by omega
        have hz1 : ¬ (0 : Int) < -1 - ((M + 1 : Nat) : Int) := by omega
        go_wp2_with fail
        go_loopw [9, 59] (fun nx i wr => ∃ (k q : Nat) (mv' : Value) (ss' : List Sta), i = .int .i64 k ∧ nx = .int .i64 q ∧ k ≤ M ∧ Hid (LT P B mv ss next (fun s i j => ∃ p, iterR (tk s d) k i p ∧ (fun s i j => ∃ k, iterR (tk s d) (k + 1) i j) s p j) (u + k * u) W3 q mv' ss' wr ∧ Blk wr (w.heap.size + 1) (.int .i64 z) (.int .u64 y0) (.int .u64 y1) (.int .u64 y2) (.int .u64 y3) (.slice sa sn sc) (.int .i64 lo2) (.int .i64 hi2))) (fun _ i _ => M - (intOf i).toNat)
        case atStart => exact ⟨0, a5, _, _, rfl, rfl, Nat.zero_le _, HS0.out, HBK0.out⟩
        case round =>
          obtain ⟨k, q, mv', ss', rfl, rfl, hk, hLT, hBk⟩ := hrel
          by_cases hlt : k < M
          · have hki : (k : Int) < (M : Nat) := by omega
            obtain ⟨k0, k1, k2, k3, k4, k5, k6, k7⟩ := hBk.cells
            have hkl := hBk.lt
            have HLT := hidden hLT
            have HBK := hidden hBk
            have hku := Nat.mul_le_mul_right u (show k + 1 ≤ M by omega)
            have hq := hLT.l.at_
            have hsz2 : ss'.length + 2 * sizeN d ≤ 1000000 := by have := HU.out; have := hLT.len; rw [Nat.succ_mul] at hku; omega
            have hB5 : B ≤ wr.heap.size := by have := hLT.g.size; have := HB3.out.size; omega
            have HN5 := hidden (HN.out.under (((HB3.out.mono (Nat.le_of_lt hP)).trans (hLT.g.below HM3.out)) : Below P w wr))
            clear hLT hBk
            go_wp2_with fail
            refine (HOK.out m HR.out _ P B mv' ss' q _ HN5.out HLT.out.m hq hB5 hsz2).mono ?_
            rintro e w8 ⟨q8, mv8, ss8, rfl, hM8, hG8, hL8, hlen8⟩
            have HLT8 := hidden (show LT P B mv ss next (fun s i j => ∃ p, iterR (tk s d) (k + 1) i p ∧ (fun s i j => ∃ k, iterR (tk s d) (k + 1) i j) s p j) (u + (k + 1) * u) W3 q8 mv8 ss8 w8 from ⟨hM8, HLT.out.g.trans hG8, (HLT.out.l.comp hL8).iff (fun s i j => must_step (tk s d) ((fun s i j => ∃ k, iterR (tk s d) (k + 1) i j) s) k i j), by have := HU.out; have := HLT.out.len; rw [Nat.succ_mul]; omega⟩)
            have HBK8 := hidden (HBK.out.mg hG8 (by omega) (fun e => by
              have h9 := HLT.out.g.own
              rcases h9 with h9 | ⟨g9, h9, hg9⟩
              · rw [h9] at e; have := hown _ e.symm; omega
              · rw [h9] at e; cases e; have := hBW3.out; omega))
            clear hM8 hG8 hL8 hlen8 k0 k1 k2 k3 k4 k5 k6 k7
            go_wp2_with fail
            go_roundw
            case rel => exact ⟨k + 1, q8, mv8, ss8, by go_num, rfl, by omega, HLT8.out, HBK8.out⟩
            case measure => simp [intOf]; omega
          · obtain rfl : M = k := by omega
            have hki : ¬ ((M : Nat) : Int) < (M : Nat) := by omega
            have HA := hidden (hLT.ans (K' := r * u + 1) HB3.out (by omega) (R' := fun s => tk s (.mk 5 f [d] ((M : Int) + 1) (-1))) (fun s i j => by rw [tk5]; exact times_any (tk s d) M i j))
            clear hLT hBk
            go_wp2_with fail
            go_ret
            exact HA.out
  · have hLH : (L : Int) ≤ hi := by omega
    obtain ⟨H, rfl⟩ : ∃ H : Nat, hi = H := ⟨hi.toNat, by omega⟩
    have hLH2 : L ≤ H := by omega
    obtain ⟨D, rfl⟩ : ∃ D, H = L + D := ⟨H - L, by omega⟩
    have hru2 : D * u + L * u ≤ r * u := by
      have h9 := Nat.mul_le_mul_right u (show D + L ≤ r by have := HRR.out; omega)
      rw [Nat.add_mul] at h9; exact h9
    have hDi : ((L + D : Nat) : Int) - (L : Int) = (D : Int) := by omega
    go_wp2_with fail
    have HS0 := hidden (show LT P B mv ss next (fun s i j => ∃ n, n ≤ 0 ∧ iterR (tk s d) n i j) (0 * u) W3 next mv ss W3 from ⟨HM3.out, Mg.refl P mv W3, (Laid.id hn).iff (fun s i j => ⟨fun h => ⟨0, Nat.le_refl _, h⟩, fun ⟨n, h1, h2⟩ => by rw [show n = 0 by omega] at h2; exact h2⟩), by omega⟩)
    clear c0 c1 c2 c3 c4 c5 c6 c7
    go_loopw [9, 47] (fun nx i wr => ∃ (k q : Nat) (mv' : Value) (ss' : List Sta), i = .int .i64 k ∧ nx = .int .i64 q ∧ k ≤ D ∧ Hid (LT P B mv ss next (fun s i j => ∃ n, n ≤ k ∧ iterR (tk s d) n i j) (k * u) W3 q mv' ss' wr ∧ Blk wr (w.heap.size + 1) (.int .i64 z) (.int .u64 y0) (.int .u64 y1) (.int .u64 y2) (.int .u64 y3) (.slice sa sn sc) (.int .i64 lo2) (.int .i64 hi2))) (fun _ i _ => D - (intOf i).toNat)
    case atStart => exact ⟨0, next, mv, ss, rfl, rfl, Nat.zero_le _, HS0.out, HK3.out⟩
    case round =>
      obtain ⟨k, q, mv', ss', rfl, rfl, hk, hLT, hBk⟩ := hrel
      by_cases hlt : k < D
      · have hki : (k : Int) < (L : Int) + D - L := by omega
        obtain ⟨k0, k1, k2, k3, k4, k5, k6, k7⟩ := hBk.cells
        have hkl := hBk.lt
        have HLT := hidden hLT
        have HBK := hidden hBk
        have hku := Nat.mul_le_mul_right u (show k + 1 ≤ D by omega)
        have hq := hLT.l.at_
        have hsz2 : ss'.length + 2 * sizeN d ≤ 1000000 := by have := HU.out; have := hLT.len; rw [Nat.succ_mul] at hku; omega
        have hB5 : B ≤ wr.heap.size := by have := hLT.g.size; have := HB3.out.size; omega
        have HN5 := hidden (HN.out.under (((HB3.out.mono (Nat.le_of_lt hP)).trans (hLT.g.below HM3.out)) : Below P w wr))
        clear hLT hBk
        go_wp2_with fail
        refine (HOK.out m HR.out _ P B mv' ss' q _ HN5.out HLT.out.m hq hB5 hsz2).mono ?_
        rintro e w8 ⟨q8, mv8, ss8, rfl, hM8, hG8, hL8, hlen8⟩
        have HBK8 := hidden (HBK.out.mg hG8 (by omega) (fun e => by
          have h9 := HLT.out.g.own
          rcases h9 with h9 | ⟨g9, h9, hg9⟩
          · rw [h9] at e; have := hown _ e.symm; omega
          · rw [h9] at e; cases e; have := hBW3.out; omega))
        have HG8 := hidden (HLT.out.g.trans hG8)
        have HL8 := hidden (Laid.alt none_ hn (Laid.id hn) (HLT.out.l.comp hL8))
        have HM8 := hidden hM8
        have hlen8' : ss8.length + 1 ≤ ss.length + (k + 1) * u := by have := HU.out; have := HLT.out.len; rw [Nat.succ_mul]; omega
        have hl8 : ss8.length < 1048576 := by have := HU.out; rw [Nat.succ_mul] at hku; rw [Nat.succ_mul] at hlen8'; omega
        have hB8 : B ≤ w8.heap.size := by have := hG8.size; omega
        have hkl8 := HBK8.out.lt
        clear hM8 hG8 hL8 hlen8 k0 k1 k2 k3 k4 k5 k6 k7
        go_wp2_with fail
        refine (add_plain 1 q8 next P B mv8 ss8 _ HM8.out hl8 hB8).mono ?_
        rintro e w9 ⟨mv9, rfl, hM9, hG9⟩
        have HLT9 := hidden (show LT P B mv ss next (fun s i j => ∃ n, n ≤ k + 1 ∧ iterR (tk s d) n i j) ((k + 1) * u) W3 ss8.length mv9 (ss8 ++ [⟨1, none_, q8, next⟩]) w9 from ⟨hM9, HG8.out.trans hG9, HL8.out.iff (fun s i j => upTo_step (tk s d) k i j), by rw [List.length_append]; exact hlen8'⟩)
        have HBK9 := hidden (HBK8.out.mg hG9 (by omega) (fun e => by
          have h9 := HG8.out.own
          rcases h9 with h9 | ⟨g9, h9, hg9⟩
          · rw [h9] at e; have := hown _ e.symm; omega
          · rw [h9] at e; cases e; have := hBW3.out; omega))
        clear hM9 hG9
        go_wp2_with fail
        go_roundw
        case rel => exact ⟨k + 1, ss8.length, mv9, _, by go_num, rfl, by omega, HLT9.out, HBK9.out⟩
        case measure => simp [intOf]; omega
      · obtain rfl : D = k := by omega
        have hki : ¬ (D : Int) < (L : Int) + D - L := by omega
        have HS1 := hidden (show LT P B mv ss next (fun s i j => ∃ p, iterR (tk s d) 0 i p ∧ (fun s i j => ∃ n, n ≤ D ∧ iterR (tk s d) n i j) s p j) (D * u + 0 * u) W3 q mv' ss' wr from ⟨hLT.m, hLT.g, hLT.l.iff (fun s i j => ⟨fun h => ⟨i, rfl, h⟩, fun ⟨p, e, h⟩ => by rw [show i = p from e]; exact h⟩), by have := hLT.len; omega⟩)
        have HBK1 := hidden hBk
        have hwl := hBk.lt
        clear hLT hBk
        go_wp2_with fail
        go_loopw [9, 59] (fun nx i wr => ∃ (k q : Nat) (mv' : Value) (ss' : List Sta), i = .int .i64 k ∧ nx = .int .i64 q ∧ k ≤ L ∧ Hid (LT P B mv ss next (fun s i j => ∃ p, iterR (tk s d) k i p ∧ (fun s i j => ∃ n, n ≤ D ∧ iterR (tk s d) n i j) s p j) (D * u + k * u) W3 q mv' ss' wr ∧ Blk wr (w.heap.size + 1) (.int .i64 z) (.int .u64 y0) (.int .u64 y1) (.int .u64 y2) (.int .u64 y3) (.slice sa sn sc) (.int .i64 lo2) (.int .i64 hi2))) (fun _ i _ => L - (intOf i).toNat)
        case atStart => exact ⟨0, q, _, _, rfl, rfl, Nat.zero_le _, HS1.out, HBK1.out⟩
        case round =>
          obtain ⟨k, q, mv', ss', rfl, rfl, hk, hLT, hBk⟩ := hrel
          by_cases hlt : k < L
          · have hki : (k : Int) < (L : Nat) := by omega
            obtain ⟨k0, k1, k2, k3, k4, k5, k6, k7⟩ := hBk.cells
            have hkl := hBk.lt
            have HLT := hidden hLT
            have HBK := hidden hBk
            have hku := Nat.mul_le_mul_right u (show k + 1 ≤ L by omega)
            have hq := hLT.l.at_
            have hsz2 : ss'.length + 2 * sizeN d ≤ 1000000 := by have := HU.out; have := hLT.len; rw [Nat.succ_mul] at hku; omega
            have hB5 : B ≤ wr.heap.size := by have := hLT.g.size; have := HB3.out.size; omega
            have HN5 := hidden (HN.out.under (((HB3.out.mono (Nat.le_of_lt hP)).trans (hLT.g.below HM3.out)) : Below P w wr))
            clear hLT hBk
            go_wp2_with fail
            refine (HOK.out m HR.out _ P B mv' ss' q _ HN5.out HLT.out.m hq hB5 hsz2).mono ?_
            rintro e w8 ⟨q8, mv8, ss8, rfl, hM8, hG8, hL8, hlen8⟩
            have HLT8 := hidden (show LT P B mv ss next (fun s i j => ∃ p, iterR (tk s d) (k + 1) i p ∧ (fun s i j => ∃ n, n ≤ D ∧ iterR (tk s d) n i j) s p j) (D * u + (k + 1) * u) W3 q8 mv8 ss8 w8 from ⟨hM8, HLT.out.g.trans hG8, (HLT.out.l.comp hL8).iff (fun s i j => must_step (tk s d) ((fun s i j => ∃ n, n ≤ D ∧ iterR (tk s d) n i j) s) k i j), by have := HU.out; have := HLT.out.len; rw [Nat.succ_mul]; omega⟩)
            have HBK8 := hidden (HBK.out.mg hG8 (by omega) (fun e => by
              have h9 := HLT.out.g.own
              rcases h9 with h9 | ⟨g9, h9, hg9⟩
              · rw [h9] at e; have := hown _ e.symm; omega
              · rw [h9] at e; cases e; have := hBW3.out; omega))
            clear hM8 hG8 hL8 hlen8 k0 k1 k2 k3 k4 k5 k6 k7
            go_wp2_with fail
            go_roundw
            case rel => exact ⟨k + 1, q8, mv8, ss8, by go_num, rfl, by omega, HLT8.out, HBK8.out⟩
            case measure => simp [intOf]; omega
          · obtain rfl : L = k := by omega
            have hki : ¬ ((L : Nat) : Int) < (L : Nat) := by omega
            have HA := hidden (hLT.ans (K' := r * u + 1) HB3.out (by omega) (R' := fun s => tk s (.mk 5 f [d] (L : Int) ((L : Int) + D))) (fun s i j => by rw [tk5]; exact times_some (tk s d) L D i j))
            clear hLT hBk
            go_wp2_with fail
            go_ret
            exact HA.out

end Go.Proofs.Ytjlihidmohokhaa
