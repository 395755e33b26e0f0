/-
  What the program's sizeUpTo answers of a node that lies in memory: its size, but no more than so much; conditions: how many parts it has, and how much is asked for.
-/
import Derived.Test.YtjlihidmohokhaaNSize
namespace Go.Proofs.Ytjlihidmohokhaa
open Go.RowKit Go.Proofs.Ytjlihidmohokhaa.Gl

/-- one list less, its first node's kids and its other nodes more -/
theorem tot_step (most s t : Nat) (st0 : List Ent) (sv : Value) (d : Nd) (rest : List Nd) (k : Int) (f : Bs) (kids : List Nd) (lo hi : Int) (hd : d = .mk k f kids lo hi) (ht : 1 ≤ t) (r1 : List Ent) (r2 : List Ent)
    (h1 : tot r1 = t * sizes rest) (h2 : tot r2 = (t * min (reps k lo hi) most) * sizes kids) :
    min most (s + tot (st0 ++ [(sv, d :: rest, t)])) = min most (s + t + tot (st0 ++ r1 ++ r2)) := by
  rw [tot_app, tot_app, tot_app, h1, h2, hd]
  simp only [tot, sizes_cons, sizeN_is, Nat.add_zero]
  rw [Nat.mul_add, Nat.mul_add, Nat.mul_one]
  obtain ⟨c, hc⟩ : ∃ c, c = min (reps k lo hi) most := ⟨_, rfl⟩
  rw [← hc]
  by_cases hr : reps k lo hi ≤ most
  · have hcr : c = reps k lo hi := by omega
    rw [hcr, Nat.mul_assoc]
    generalize t * (reps k lo hi * sizes kids) = P
    generalize t * sizes rest = Q
    have e : s + (tot st0 + (t + P + Q)) = s + t + (tot st0 + Q + P) := by omega
    rw [e]
  · have hcr : c = most := by omega
    by_cases hz : sizes kids = 0
    · rw [hz, Nat.mul_zero, Nat.mul_zero, Nat.mul_zero]
      generalize t * sizes rest = Q
      have e : s + (tot st0 + (t + 0 + Q)) = s + t + (tot st0 + Q + 0) := by omega
      rw [e]
    · have h3 : most ≤ t * c * sizes kids := by
        rw [hcr]
        have h5 : 1 * most * 1 ≤ t * most * sizes kids := Nat.mul_le_mul (Nat.mul_le_mul ht (Nat.le_refl _)) (by omega)
        omega
      have h4 : most ≤ t * (reps k lo hi * sizes kids) := by
        have h5 : 1 * (most * 1) ≤ t * (reps k lo hi * sizes kids) := Nat.mul_le_mul ht (Nat.mul_le_mul (by omega) (by omega))
        omega
      generalize t * (reps k lo hi * sizes kids) = P at h4 ⊢
      generalize t * c * sizes kids = P2 at h3 ⊢
      generalize t * sizes rest = Q
      rw [Nat.min_eq_left (show most ≤ s + (tot st0 + (t + P + Q)) by omega), Nat.min_eq_left (show most ≤ s + t + (tot st0 + Q + P2) by omega)]
theorem cnt_step (st0 : List Ent) (sv sv1 sv2 : Value) (k : Int) (f : Bs) (kids rest : List Nd) (lo hi : Int) (t t1 t2 : Nat) : cntS (st0 ++ [(sv, .mk k f kids lo hi :: rest, t)]) = 1 + cntS (st0 ++ [(sv1, rest, t1)] ++ [(sv2, kids, t2)]) := by
  rw [cntS_app, cntS_app, cntS_app]
  simp [cntS, cnts, cntN]
  omega

theorem cnts_len' (l : List Nd) : l.length ≤ cnts l := by
  induction l with
  | nil => exact Nat.le_refl _
  | cons d l ih => obtain ⟨k, f, kids, lo, hi⟩ := d; rw [cnts, cntN, List.length_cons]; omega

theorem timesOf_kept {W0 X : World} {B : Nat} {v : Value} {st : List Ent} {nb : Nat} {sv : Value} {t : Nat} (k : Int) (f : Bs) (ka : Option Addr) (kn kc : Nat) (lo2 hi2 : Int) (most : Nat) (hm : 1 ≤ most) (hm2 : most ≤ 1073741824) (h : QK W0 B v st nb sv t X) :
    Calls Try.prog 40 #[.agg #[.int .i64 k, .int .u64 (word f 0), .int .u64 (word f 1), .int .u64 (word f 2), .int .u64 (word f 3), .slice ka kn kc, .int .i64 lo2, .int .i64 hi2], .int .i64 most] X fun e X' => e = .returned (.int .i64 (min (reps k lo2 hi2) most : Nat)) ∧ QK W0 B v st nb sv t X' :=
  (timesOf_any k f ka kn kc lo2 hi2 most X hm hm2).mono fun _ _ ⟨he, hb⟩ => ⟨he, h.on hb⟩
theorem wrap_nat (a b : Nat) (h : a * b ≤ 1152921504606846976) : IntKind.wrap .i64 ((a : Int) * b) = ((a * b : Nat) : Int) ∧ wrap64 ((a : Int) * b) = ((a * b : Nat) : Int) := by
  have e : (a : Int) * b = ((a * b : Nat) : Int) := by rw [Int.natCast_mul]
  rw [e]
  generalize a * b = P at h
  constructor
  · rw [IntKind.wrap_i64]; omega
  · unfold wrap64; omega

set_option maxRecDepth 3000 in
set_option maxHeartbeats 8000000 in
theorem sizeUpTo_any (x : Nd) (v : Value) (w : World) (A : Nat → Prop) (most : Nat) (hx : NodeAt w A v x) (hc : cntN x ≤ 1048576) (hm1 : 1 ≤ most) (hm2 : most ≤ 1073741824) :
    Calls Try.prog 30 #[v, .int .i64 most] w fun e w' => e = .returned (.int .i64 (min most (sizeN x) : Nat)) ∧ Below w.heap.size w w' := by
  have HM12 := hidden (And.intro hm1 hm2)
  obtain ⟨z, y0, y1, y2, y3, sa, sn, sc, lo, hi, rfl⟩ := hx.shapeI
  obtain ⟨W0, hW0⟩ : ∃ W, W = (w.alloc (.cells #[.int .i64 z, .int .u64 y0, .int .u64 y1, .int .u64 y2, .int .u64 y3, .slice sa sn sc, .int .i64 lo, .int .i64 hi] 26)).alloc (.cells #[.int .i64 z, .int .u64 y0, .int .u64 y1, .int .u64 y2, .int .u64 y3, .slice sa sn sc, .int .i64 lo, .int .i64 hi] 26) := ⟨_, rfl⟩
  have hsz : W0.heap.size = w.heap.size + 2 := by rw [hW0]; simp
  have HB0 := hidden (show Below w.heap.size w W0 by rw [hW0]; exact ((Below.refl _ w).alloc (Nat.le_refl _) _).alloc (by simp) _)
  have hroot : KidsAt W0 (fun _ => True) (.slice (some ⟨w.heap.size + 1, 0, none⟩) 1 1) [x] := by
    have hN : NodeAt W0 (fun _ => True) (.agg #[.int .i64 z, .int .u64 y0, .int .u64 y1, .int .u64 y2, .int .u64 y3, .slice sa sn sc, .int .i64 lo, .int .i64 hi]) x := (hx.later HB0.out).keep fun _ _ _ => ⟨rfl, trivial⟩
    have hBk : Blk W0 (w.heap.size + 1) (.int .i64 z) (.int .u64 y0) (.int .u64 y1) (.int .u64 y2) (.int .u64 y3) (.slice sa sn sc) (.int .i64 lo) (.int .i64 hi) := by rw [hW0]; exact Blk.newAt (by simp)
    have := times_at (z := 5) (l := 0) (h := 0) hN hBk trivial rfl
    obtain ⟨kv, hv, hk⟩ := NodeAt.open (show NodeAt W0 (fun _ => True) _ (.mk 5 none_ [x] 0 0) from this)
    unfold nodeV at hv
    injection hv with hv
    simp at hv
    rw [hv.2.2.2.2]
    exact hk
  have HROOT := hidden hroot
  have HMIN := hidden (show min most (sizeN x) = min most (0 + tot [(.slice (some ⟨w.heap.size + 1, 0, none⟩) 1 1, [x], 1)]) by simp [tot, sizes])
  have HCNT := hidden (show cntS [((.slice (some ⟨w.heap.size + 1, 0, none⟩) 1 1 : Value), [x], 1)] ≤ 1048576 by simp [cntS, cnts]; exact hc)
  clear hx hc hroot
  go_enter Try.func30, Try.ntmps30
  go_wp2_with fail
  rw [← hW0]
  rw [show w.heap.size + 1 + 1 = w.heap.size + 2 by omega]
  go_loopw [5, 6] (fun sz u wr => ∃ (s : Nat) (st : List Ent), sz = .int .i64 s ∧ s < most ∧ cntS st ≤ 1048576 ∧ Hid (wr.ownsRow (w.heap.size + 2) 72 2 u st.length (cellsS st) ∧ Below (w.heap.size + 2) W0 wr ∧ Ents W0 st ∧ min most (sizeN x) = min most (s + tot st)))
    (fun sz _ _ => most - (intOf sz).toNat)
  case atStart =>
    refine ⟨0, [(.slice (some ⟨w.heap.size + 1, 0, none⟩) 1 1, [x], 1)], rfl, by omega, HCNT.out, ⟨rfl, Or.inr ⟨w.heap.size + 2, 1, #[.slice (some ⟨w.heap.size + 1, 0, none⟩) 1 1, .int .i64 1], rfl, Nat.le_refl _, ?_, Nat.le_refl _, by unfold maxLen; omega, rfl, rfl⟩⟩, ?_, Ents.one ⟨HROOT.out, by simp, Nat.le_refl _, by show 1 ≤ 1152921504606846976; decide⟩, HMIN.out⟩
    · rw [← hsz]
      show (W0.heap.push _)[W0.heap.size]? = _
      exact Array.getElem?_push_size
    · rw [← hsz]
      exact (Below.refl _ W0).alloc (Nat.le_refl _) _
  case round =>
    obtain ⟨s, st, rfl, hs, hcnt, hown, hbel, hents, hmin⟩ := hrel
    have hstl := cntS_len W0 st hents
    have hB0 : w.heap.size + 2 ≤ wr.heap.size := by have := hbel.size; omega
    have HBEL := hidden hbel
    by_cases hst : st = []
    · subst hst
      have hv : u6 = .slice none 0 0 ∨ ∃ g cap, u6 = .slice (some ⟨g, 0, none⟩) 0 cap := by
        rcases hown.2 with ⟨h, _⟩ | ⟨g, cap, cur, h, _⟩
        · exact Or.inl h
        · exact Or.inr ⟨g, cap, h⟩
      have HF := hidden (show min most (sizeN x) = s by rw [hmin]; simp [tot]; omega)
      clear hown hbel hents hmin
      rcases hv with rfl | ⟨gg, cap, rfl⟩
      all_goals
        go_wp2_with fail
        go_ret
        exact ⟨by rw [HF.out]; rfl, HB0.out.trans (HBEL.out.mono (by omega))⟩
    · obtain ⟨st0, en, rfl⟩ : ∃ a b, st = a ++ [b] := ⟨_, _, (List.dropLast_concat_getLast hst).symm⟩
      obtain ⟨sv, dr, t⟩ := en
      have hl := hents.last
      simp only [] at hl
      obtain ⟨hk, hne, ht1, ht2⟩ := hl
      obtain ⟨d, rest, rfl⟩ : ∃ d rest, dr = d :: rest := by
        cases dr with
        | nil => exact absurd rfl hne
        | cons d rest => exact ⟨d, rest, rfl⟩
      obtain ⟨k, f, kids, lo2, hi2⟩ := d
      obtain ⟨ba, bc, vs, rfl, hvl, hcap, hcells, hkids⟩ := hk
      obtain ⟨b, o, rfl, _, hce⟩ := hcells (by simp)
      obtain ⟨u0, hu0⟩ : ∃ u, vs[0]? = some u := ⟨_, List.getElem?_eq_getElem (by rw [hvl]; simp)⟩
      have hnc := hce 0 u0 hu0
      have hN0 := hkids 0 u0 _ hu0 rfl
      obtain ⟨kv, rfl, hkk⟩ := hN0.open
      have HKK := hidden hkk
      obtain ⟨ka, kc, kvs, rfl, hkvl, hkcap, _, _⟩ := hkk
      have HREST := hidden (show rest ≠ [] → KidsAt W0 (fun _ => True) (.slice (some ⟨b, o + 8, none⟩) rest.length (bc - 1)) rest from fun _ => by
        refine ⟨_, bc - 1, vs.drop 1, rfl, by rw [List.length_drop, hvl]; simp, by simp at hcap; omega, fun _ => ⟨b, o + 8, rfl, trivial, fun j v hj => ?_⟩, fun j v d hj hd => ?_⟩
        · rw [List.getElem?_drop] at hj
          have := hce (1 + j) v hj
          rw [show o + 8 + j * 8 = o + (1 + j) * 8 by omega]
          exact this
        · rw [List.getElem?_drop] at hj
          exact hkids (1 + j) v d hj (by rw [Nat.add_comm, List.getElem?_cons_succ]; exact hd))
      have hbl : b < w.heap.size + 2 := by have := hnc.lt; omega
      unfold nodeV at hnc
      obtain ⟨e0, e1, e2, e3, e4, e5, e6, e7, hev, q0, q1, q2, q3, q4, q5, q6, q7⟩ := hnc
      injection hev with hev
      simp at hev
      obtain ⟨rfl, rfl, rfl, rfl, rfl, rfl, rfl, rfl⟩ := hev
      rw [Nat.zero_mul, Nat.add_zero] at q0 q1 q2 q3 q4 q5 q6 q7
      obtain ⟨g, cap, hv, hgB, hgl⟩ := hown.form (by simp)
      rw [List.length_append] at hv
      simp only [List.length_cons, List.length_nil, Nat.zero_add] at hv
      obtain ⟨n0, hn0⟩ : ∃ n, n = st0.length := ⟨_, rfl⟩
      rw [← hn0] at hv
      subst hv
      have hcl := cellsS_last st0 ((.slice (some ⟨b, o, none⟩) (Nd.mk k f kids lo2 hi2 :: rest).length bc : Value), Nd.mk k f kids lo2 hi2 :: rest, t)
      have hcell0 := hown.cells (g := g) rfl _ _ hcl.1
      have hcell1 := hown.cells (g := g) rfl _ _ hcl.2
      rw [← hn0] at hcell0 hcell1
      have hadd : ∀ j, (⟨g, 0, none⟩ : Addr).add j = ⟨g, j, none⟩ := fun j => by unfold Addr.add; split <;> simp_all
      rw [hadd] at hcell0 hcell1
      simp only [] at hcell0 hcell1
      have HOWN := hidden (owns_cut hown hn0)
      have hown0 := hidden hown
      have HE0 := hidden hents.left
      have HMIN2 := hidden hmin
      have hn0b : n0 ≤ 1048576 := by have h8 := Nat.le_trans hstl hcnt; rw [List.length_append, ← hn0] at h8; simp at h8; omega
      obtain ⟨m, hm⟩ : ∃ m, m = rest.length := ⟨_, rfl⟩
      rw [List.length_cons, ← hm] at hcell0
      rw [List.length_cons, ← hm] at hcap
      have hmb : m ≤ 1048576 := by
        have h5 := cnt_step st0 (.slice none 0 0) (.slice none 0 0) (.slice none 0 0) k f kids rest lo2 hi2 t 0 0
        rw [cntS_app] at h5 hcnt
        simp [cntS, cnts, cntN] at hcnt
        have h6 := cnts_len' rest
        omega
      have hkb : kids.length ≤ 1048576 := by
        rw [cntS_app] at hcnt
        simp [cntS, cnts, cntN] at hcnt
        have h6 := cnts_len' kids
        omega
      have HN0 := hidden hn0
      have HM := hidden hm
      have hcapg : n0 + 1 ≤ cap := by
        rcases hown0.out.2 with ⟨h1, _⟩ | ⟨g', cap', cur, hv', _, _, hc', _⟩
        · cases h1
        · simp only [Value.slice.injEq] at hv'
          obtain ⟨_, h3, rfl⟩ := hv'
          omega
      obtain ⟨L, hL⟩ : ∃ L, L = n0 + 1 := ⟨_, rfl⟩
      rw [← hL]
      have hL0 : (0 : Int) < L := by omega
      have hL1 : (L : Int) ≤ 26843545 := by omega
      have hL2 : (L : Int) - 1 = n0 := by omega
      have hL3 : n0 < L := by omega
      have hL4 : L ≤ cap := by omega
      have HL := hidden hL
      clear hL hown0
      have HEV := hidden (And.intro ht1 ht2)
      have HQ := hidden (And.intro q0 (And.intro q1 (And.intro q2 (And.intro q3 (And.intro q4 (And.intro q5 (And.intro q6 q7)))))))
      have HW0 := hidden hW0
      have HSZ := hidden hsz
      clear q0 q1 q2 q3 q4 q5 q6 q7 hW0 hsz
      have HCNT2 := hidden hcnt
      clear hown hbel hents hmin hcl hkids hce hcells hvl hu0 hkvl hkcap hN0 hne hstl hst hadd hn0 hm
      by_cases hge : most ≤ s + t
      · have HF := hidden (show min most (sizeN x) = most by
          rw [HMIN2.out, tot_app]
          simp only [tot, Nat.add_zero]
          have h7 : t * 1 ≤ t * sizes (Nd.mk k f kids lo2 hi2 :: rest) := Nat.mul_le_mul (Nat.le_refl _) (sizes_pos (by simp))
          omega)
        have hgi : (most : Int) ≤ (s : Int) + t := by omega
        go_wp2_with fail
        go_ret
        exact ⟨by rw [HF.out]; rfl, by refine Below.trans HB0.out ?_; exact (HBEL.out.alloc hB0 _).mono (by omega)⟩
      · have hgi : ¬ (most : Int) ≤ (s : Int) + t := by omega
        have hgl2 : some wr.heap.size ≠ (Value.slice (some ⟨g, 0, none⟩) n0 cap).ownBlock := by simp [Value.ownBlock]; omega
        have HK1 := hidden (show QK W0 (w.heap.size + 2) (.slice (some ⟨g, 0, none⟩) n0 cap) st0 wr.heap.size (.slice (some ⟨b, o, none⟩) (m + 1) bc) t (wr.alloc (.cells #[.slice (some ⟨b, o, none⟩) (m + 1) bc, .int .i64 t] 72)) from
          ⟨HOWN.out.alloc _, HBEL.out.alloc hB0 _, by simp, by simp, by simp, hgl2, by simp; omega⟩)
        have hQ : ∀ X, Below (w.heap.size + 2) W0 X → X.cell? ⟨b, o, none⟩ = some (.int .i64 k) ∧ X.cell? ⟨b, o + 1, none⟩ = some (.int .u64 (word f 0)) ∧ X.cell? ⟨b, o + 2, none⟩ = some (.int .u64 (word f 1)) ∧ X.cell? ⟨b, o + 3, none⟩ = some (.int .u64 (word f 2)) ∧ X.cell? ⟨b, o + 4, none⟩ = some (.int .u64 (word f 3)) ∧ X.cell? ⟨b, o + 5, none⟩ = some (.slice ka kids.length kc) ∧ X.cell? ⟨b, o + 6, none⟩ = some (.int .i64 lo2) ∧ X.cell? ⟨b, o + 7, none⟩ = some (.int .i64 hi2) := fun X hX => by
          obtain ⟨q0, q1, q2, q3, q4, q5, q6, q7⟩ := HQ.out
          exact ⟨(hX.cell (p := ⟨b, o, none⟩) hbl).trans q0, (hX.cell (p := ⟨b, o + 1, none⟩) hbl).trans q1, (hX.cell (p := ⟨b, o + 2, none⟩) hbl).trans q2, (hX.cell (p := ⟨b, o + 3, none⟩) hbl).trans q3, (hX.cell (p := ⟨b, o + 4, none⟩) hbl).trans q4, (hX.cell (p := ⟨b, o + 5, none⟩) hbl).trans q5, (hX.cell (p := ⟨b, o + 6, none⟩) hbl).trans q6, (hX.cell (p := ⟨b, o + 7, none⟩) hbl).trans q7⟩
        have HQ2 := hidden hQ
        clear hQ hge
        by_cases hm0 : m = 0
        · have hrn : rest = [] := List.eq_nil_of_length_eq_zero (by rw [← HM.out]; exact hm0)
          have hm1 : ¬ (1 : Int) < (m : Int) + 1 := by omega
          have HRN := hidden hrn
          have HM0 := hidden hm0
          clear hrn hm0
          have HKX := hidden HK1.out
          have hcx0 := HKX.out.c0
          have hcx1 := HKX.out.c1
          have hnx := HKX.out.nlt
          obtain ⟨p0, p1, p2, p3, p4, p5, p6, p7⟩ := HQ2.out _ HKX.out.bel
          by_cases hk0 : kids.length = 0
          · have hki : ¬ (0 : Int) < kids.length := by omega
            have hkn : kids = [] := List.eq_nil_of_length_eq_zero hk0
            have HFIN := hidden (show min most (sizeN x) = min most (s + t + tot (st0)) by
              have h9 := tot_step most s t st0 (.slice (some ⟨b, o, none⟩) (Nd.mk k f kids lo2 hi2 :: rest).length bc) (.mk k f kids lo2 hi2) rest k f kids lo2 hi2 rfl HEV.out.1 [] [] (by rw [HRN.out]; simp [tot, sizes]) (by rw [hkn]; simp [tot, sizes])
              rw [HMIN2.out]
              simpa using h9)
            have HC9 := hidden (show cntS (st0) ≤ 1048576 by have h5 := cnt_step st0 (.slice (some ⟨b, o, none⟩) (Nd.mk k f kids lo2 hi2 :: rest).length bc) (.slice none 0 0) (.slice ka kids.length kc) k f kids rest lo2 hi2 t t (t * 1); have h6 := HCNT2.out; rw [h5] at h6; rw [cntS_app, cntS_app] at h6; simp [cntS] at h6 ⊢; omega)
            clear hkn
            go_wp2_with fail
            go_roundw
            case rel => exact ⟨s + t, st0, by go_num, by omega, HC9.out, HKX.out.own, HKX.out.bel, HE0.out, HFIN.out⟩
            case measure => have := HEV.out.1; simp [intOf]; omega
          · have hki : (0 : Int) < kids.length := by omega
            have hkne : kids ≠ [] := fun e => hk0 (by rw [e]; rfl)
            obtain ⟨rp, hrp⟩ : ∃ r, r = min (reps k lo2 hi2) most := ⟨_, rfl⟩
            have hrp2 : rp ≤ most := by omega
            have htm : t ≤ 1073741824 := by omega
            have hprod : t * rp ≤ 1152921504606846976 := by
              have : t * rp ≤ 1073741824 * 1073741824 := Nat.mul_le_mul htm (by omega)
              omega
            have hrp1 : 1 ≤ rp := by
              rw [hrp]
              unfold reps
              split <;> omega
            have hprod1 : 1 ≤ t * rp := by
              have h1 := HEV.out.1
              have : 1 * 1 ≤ t * rp := Nat.mul_le_mul h1 hrp1
              omega
            obtain ⟨hw1, hw2⟩ := wrap_nat t rp hprod
            have HFIN := hidden (show min most (sizeN x) = min most (s + t + tot (st0 ++ [(.slice ka kids.length kc, kids, t * rp)])) by
              have h9 := tot_step most s t st0 (.slice (some ⟨b, o, none⟩) (Nd.mk k f kids lo2 hi2 :: rest).length bc) (.mk k f kids lo2 hi2) rest k f kids lo2 hi2 rfl HEV.out.1 [] [(.slice ka kids.length kc, kids, t * rp)] (by rw [HRN.out]; simp [tot, sizes]) (by simp [tot, ← hrp])
              rw [HMIN2.out]
              simpa using h9)
            have HC9 := hidden (show cntS (st0 ++ [((.slice ka kids.length kc : Value), kids, t * rp)]) ≤ 1048576 by have h5 := cnt_step st0 (.slice (some ⟨b, o, none⟩) (Nd.mk k f kids lo2 hi2 :: rest).length bc) (.slice none 0 0) (.slice ka kids.length kc) k f kids rest lo2 hi2 t t (t * 1); have h6 := HCNT2.out; rw [h5] at h6; rw [cntS_app, cntS_app] at h6; simp [cntS, cntS_app] at h6 ⊢; omega)
            have HE9 := hidden (show Ents W0 (st0 ++ [(.slice ka kids.length kc, kids, t * rp)]) from Ents.app (HE0.out) (Ents.one ⟨HKK.out, hkne, hprod1, hprod⟩))
            have HRP := hidden hrp
            obtain ⟨i0, hi0, hz0, hz1, hz2⟩ := info_parts Try.infoList
            have hst0 : st0.length ≤ 1048576 := by rw [← HN0.out]; exact hn0b
            clear hkne hrp
            go_upto_region 14 with fail
            have hKX := HKX.out
            go_region_held3 (fun X => X.cell? ⟨wr.heap.size, 0, none⟩ = some (.slice (some ⟨b, o, none⟩) (m + 1) bc) ∧ X.cell? ⟨wr.heap.size, 1, none⟩ = some (.int .i64 t) ∧ X.cell? ⟨b, o, none⟩ = some (.int .i64 k) ∧ X.cell? ⟨b, o + 1, none⟩ = some (.int .u64 (word f 0)) ∧ X.cell? ⟨b, o + 2, none⟩ = some (.int .u64 (word f 1)) ∧ X.cell? ⟨b, o + 3, none⟩ = some (.int .u64 (word f 2)) ∧ X.cell? ⟨b, o + 4, none⟩ = some (.int .u64 (word f 3)) ∧ X.cell? ⟨b, o + 5, none⟩ = some (.slice ka kids.length kc) ∧ X.cell? ⟨b, o + 6, none⟩ = some (.int .i64 lo2) ∧ X.cell? ⟨b, o + 7, none⟩ = some (.int .i64 hi2))
              (first | exact ⟨QK.c0 (by first | assumption | exact QK.drew (by assumption) | exact QK.alloc (by assumption) _ | exact QK.drew (QK.alloc (by assumption) _) | exact QK.alloc (QK.drew (by assumption)) _), QK.c1 (by first | assumption | exact QK.drew (by assumption) | exact QK.alloc (by assumption) _ | exact QK.drew (QK.alloc (by assumption) _) | exact QK.alloc (QK.drew (by assumption)) _), HQ2.out _ (QK.bel (by first | assumption | exact QK.drew (by assumption) | exact QK.alloc (by assumption) _ | exact QK.drew (QK.alloc (by assumption) _) | exact QK.alloc (QK.drew (by assumption)) _))⟩ | assumption)
              (first
                | (go_at_call 40; refine (timesOf_kept (W0 := W0) (B := w.heap.size + 2) (v := .slice (some ⟨g, 0, none⟩) n0 cap) (st := st0) (nb := wr.heap.size) (sv := (.slice (some ⟨b, o, none⟩) (m + 1) bc)) (t := t) k f ka kids.length kc lo2 hi2 most HM12.out.1 HM12.out.2 ?_).mono ?_; (· repeat (first | assumption | apply QK.drew | apply QK.alloc)); rintro e w2 ⟨rfl, hK2⟩; rw [← HRP.out])
                | (refine step_append_lies _ rfl (.tmp 61) (.tmp 73) 73 rfl (w.heap.size + 2) 72 i0 (.agg #[.slice none 0 0, .int .i64 0]) 2 32 Try.underlying73 hi0 hz0 hz1 hz2 rfl (by decide) (.slice (some ⟨g, 0, none⟩) n0 cap) (st0).length (cellsS (st0)) rfl (QK.own (W0 := W0) (B := w.heap.size + 2) (v := .slice (some ⟨g, 0, none⟩) n0 cap) (st := st0) (nb := wr.heap.size) (sv := (.slice (some ⟨b, o, none⟩) (m + 1) bc)) (t := t) (by repeat (first | assumption | apply QK.drew | apply QK.alloc))) ⟨_, 0, none⟩ 1 1 [.slice ka kids.length kc, .int .i64 (t * rp : Nat)] rfl rfl (two_new _ _ _ _ _ (by simp)) (two_ones _ _ _ _) (by decide) (by unfold maxLen; omega) (by omega) (QK.low (W0 := W0) (B := w.heap.size + 2) (v := .slice (some ⟨g, 0, none⟩) n0 cap) (st := st0) (nb := wr.heap.size) (sv := (.slice (some ⟨b, o, none⟩) (m + 1) bc)) (t := t) (by repeat (first | assumption | apply QK.drew | apply QK.alloc))) _ rfl ?_; intro g5 cp5 w5 hown5 hgrow5 hat5 hlt5; have hK5 := QK.after (e := ((.slice ka kids.length kc : Value), kids, t * rp)) (show QK W0 (w.heap.size + 2) (.slice (some ⟨g, 0, none⟩) n0 cap) (st0) wr.heap.size (.slice (some ⟨b, o, none⟩) (m + 1) bc) t _ from (by repeat (first | assumption | apply QK.drew | apply QK.alloc))) hgrow5 hown5 hat5))
            all_goals
              have HK5 := hidden hK5
              clear hK5 hown5 hgrow5 hat5 hKX
              go_wp2_with fail
              go_roundw
              case rel => exact ⟨s + t, st0 ++ [(.slice ka kids.length kc, kids, t * rp)], by go_num, by omega, HC9.out, HK5.out.own, HK5.out.bel, HE9.out, HFIN.out⟩
              case measure => have := HEV.out.1; simp [intOf]; omega
        · have hm1 : (1 : Int) < (m : Int) + 1 := by omega
          have hbc : 1 < bc := by omega
          have HRN := hidden (show rest ≠ [] from fun e => hm0 (by rw [HM.out, e]; rfl))
          obtain ⟨i0, hi0, hz0, hz1, hz2⟩ := info_parts Try.infoList
          have hst0 : st0.length ≤ 1048576 := by rw [← HN0.out]; exact hn0b
          have hma : (1 : Int) ≤ (m : Int) + 1 := by omega
          have hmb2 : (m : Int) + 1 ≤ (bc : Int) := by omega
          have hmc : (0 : Int) ≤ (m : Int) + 1 := by omega
          have hmd : 1 ≤ m + 1 := by omega
          have hme : 0 < bc - 1 := by omega
          have hmf : ¬ bc - 1 = 0 := by omega
          have hmg : ¬ bc = 1 := by omega
          go_upto_region 11 with fail
          have hK1 := HK1.out
          go_region_held3 (fun X => X.cell? ⟨wr.heap.size, 0, none⟩ = some (.slice (some ⟨b, o, none⟩) (m + 1) bc) ∧ X.cell? ⟨wr.heap.size, 1, none⟩ = some (.int .i64 t))
            (first | exact ⟨QK.c0 (by first | assumption | exact QK.drew (by assumption) | exact QK.alloc (by assumption) _ | exact QK.drew (QK.alloc (by assumption) _) | exact QK.alloc (QK.drew (by assumption)) _), QK.c1 (by first | assumption | exact QK.drew (by assumption) | exact QK.alloc (by assumption) _ | exact QK.drew (QK.alloc (by assumption) _) | exact QK.alloc (QK.drew (by assumption)) _)⟩ | assumption)
            (first
              | (refine step_append_lies _ rfl (.tmp 44) (.tmp 51) 73 rfl (w.heap.size + 2) 72 i0 (.agg #[.slice none 0 0, .int .i64 0]) 2 32 Try.underlying73 hi0 hz0 hz1 hz2 rfl (by decide) (.slice (some ⟨g, 0, none⟩) n0 cap) st0.length (cellsS st0) rfl (QK.own (W0 := W0) (B := w.heap.size + 2) (v := .slice (some ⟨g, 0, none⟩) n0 cap) (st := st0) (nb := wr.heap.size) (sv := .slice (some ⟨b, o, none⟩) (m + 1) bc) (t := t) (by repeat (first | assumption | apply QK.drew | apply QK.alloc))) ⟨_, 0, none⟩ 1 1 [.slice (some ⟨b, o + 8, none⟩) m (bc - 1), .int .i64 t] rfl rfl (two_new _ _ _ _ _ (by simp)) (two_ones _ _ _ _) (by decide) (by unfold maxLen; omega) (by omega) (QK.low (W0 := W0) (B := w.heap.size + 2) (v := .slice (some ⟨g, 0, none⟩) n0 cap) (st := st0) (nb := wr.heap.size) (sv := .slice (some ⟨b, o, none⟩) (m + 1) bc) (t := t) (by repeat (first | assumption | apply QK.drew | apply QK.alloc))) _ rfl ?_; intro g2 cp2 w4 hown4 hgrow4 hat4 hlt4; have hK4 := QK.after (e := ((.slice (some ⟨b, o + 8, none⟩) m (bc - 1) : Value), rest, t)) (show QK W0 (w.heap.size + 2) (.slice (some ⟨g, 0, none⟩) n0 cap) st0 wr.heap.size (.slice (some ⟨b, o, none⟩) (m + 1) bc) t _ from (by repeat (first | assumption | apply QK.drew | apply QK.alloc))) hgrow4 hown4 hat4))
          all_goals
            rename_i hHeld
            have HK4 := hidden hK4
            clear hHeld hK4 hown4 hgrow4 hat4 hK1
            have HKX := hidden HK4.out
            have hcx0 := HKX.out.c0
            have hcx1 := HKX.out.c1
            have hnx := HKX.out.nlt
            obtain ⟨p0, p1, p2, p3, p4, p5, p6, p7⟩ := HQ2.out _ HKX.out.bel
            by_cases hk0 : kids.length = 0
            · have hki : ¬ (0 : Int) < kids.length := by omega
              have hkn : kids = [] := List.eq_nil_of_length_eq_zero hk0
              have HFIN := hidden (show min most (sizeN x) = min most (s + t + tot (st0 ++ [((.slice (some ⟨b, o + 8, none⟩) m (bc - 1) : Value), rest, t)])) by
                have h9 := tot_step most s t st0 (.slice (some ⟨b, o, none⟩) (Nd.mk k f kids lo2 hi2 :: rest).length bc) (.mk k f kids lo2 hi2) rest k f kids lo2 hi2 rfl HEV.out.1 [((.slice (some ⟨b, o + 8, none⟩) m (bc - 1) : Value), rest, t)] [] (by simp [tot]) (by rw [hkn]; simp [tot, sizes])
                rw [HMIN2.out]
                simpa using h9)
              have HC9 := hidden (show cntS (st0 ++ [((.slice (some ⟨b, o + 8, none⟩) m (bc - 1) : Value), rest, t)]) ≤ 1048576 by have h5 := cnt_step st0 (.slice (some ⟨b, o, none⟩) (Nd.mk k f kids lo2 hi2 :: rest).length bc) (.slice none 0 0) (.slice ka kids.length kc) k f kids rest lo2 hi2 t t (t * 1); have h6 := HCNT2.out; rw [h5] at h6; rw [cntS_app, cntS_app] at h6; simp [cntS, cntS_app] at h6 ⊢; omega)
              clear hkn
              go_wp2_with fail
              go_roundw
              case rel => exact ⟨s + t, st0 ++ [((.slice (some ⟨b, o + 8, none⟩) m (bc - 1) : Value), rest, t)], by go_num, by omega, HC9.out, HKX.out.own, HKX.out.bel, Ents.app HE0.out (Ents.one ⟨HM.out ▸ HREST.out HRN.out, HRN.out, HEV.out⟩), HFIN.out⟩
              case measure => have := HEV.out.1; simp [intOf]; omega
            · have hki : (0 : Int) < kids.length := by omega
              have hkne : kids ≠ [] := fun e => hk0 (by rw [e]; rfl)
              obtain ⟨rp, hrp⟩ : ∃ r, r = min (reps k lo2 hi2) most := ⟨_, rfl⟩
              have hrp2 : rp ≤ most := by omega
              have htm : t ≤ 1073741824 := by omega
              have hprod : t * rp ≤ 1152921504606846976 := by
                have : t * rp ≤ 1073741824 * 1073741824 := Nat.mul_le_mul htm (by omega)
                omega
              have hrp1 : 1 ≤ rp := by
                rw [hrp]
                unfold reps
                split <;> omega
              have hprod1 : 1 ≤ t * rp := by
                have h1 := HEV.out.1
                have : 1 * 1 ≤ t * rp := Nat.mul_le_mul h1 hrp1
                omega
              obtain ⟨hw1, hw2⟩ := wrap_nat t rp hprod
              have HFIN := hidden (show min most (sizeN x) = min most (s + t + tot (st0 ++ [((.slice (some ⟨b, o + 8, none⟩) m (bc - 1) : Value), rest, t)] ++ [(.slice ka kids.length kc, kids, t * rp)])) by
                have h9 := tot_step most s t st0 (.slice (some ⟨b, o, none⟩) (Nd.mk k f kids lo2 hi2 :: rest).length bc) (.mk k f kids lo2 hi2) rest k f kids lo2 hi2 rfl HEV.out.1 [((.slice (some ⟨b, o + 8, none⟩) m (bc - 1) : Value), rest, t)] [(.slice ka kids.length kc, kids, t * rp)] (by simp [tot]) (by simp [tot, ← hrp])
                rw [HMIN2.out]
                simpa using h9)
              have HC9 := hidden (show cntS (st0 ++ [((.slice (some ⟨b, o + 8, none⟩) m (bc - 1) : Value), rest, t)] ++ [((.slice ka kids.length kc : Value), kids, t * rp)]) ≤ 1048576 by have h5 := cnt_step st0 (.slice (some ⟨b, o, none⟩) (Nd.mk k f kids lo2 hi2 :: rest).length bc) (.slice none 0 0) (.slice ka kids.length kc) k f kids rest lo2 hi2 t t (t * 1); have h6 := HCNT2.out; rw [h5] at h6; rw [cntS_app, cntS_app] at h6; simp [cntS, cntS_app] at h6 ⊢; omega)
              have HE9 := hidden (show Ents W0 (st0 ++ [((.slice (some ⟨b, o + 8, none⟩) m (bc - 1) : Value), rest, t)] ++ [(.slice ka kids.length kc, kids, t * rp)]) from Ents.app (Ents.app HE0.out (Ents.one ⟨HM.out ▸ HREST.out HRN.out, HRN.out, HEV.out⟩)) (Ents.one ⟨HKK.out, hkne, hprod1, hprod⟩))
              have HRP := hidden hrp
              obtain ⟨i0, hi0, hz0, hz1, hz2⟩ := info_parts Try.infoList
              have hst1 : (st0 ++ [((.slice (some ⟨b, o + 8, none⟩) m (bc - 1) : Value), rest, t)]).length ≤ 1048577 := by rw [List.length_append]; show st0.length + 1 ≤ 1048577; omega
              clear hkne hrp
              go_upto_region 14 with fail
              have hKX := HKX.out
              go_region_held3 (fun X => X.cell? ⟨wr.heap.size, 0, none⟩ = some (.slice (some ⟨b, o, none⟩) (m + 1) bc) ∧ X.cell? ⟨wr.heap.size, 1, none⟩ = some (.int .i64 t) ∧ X.cell? ⟨b, o, none⟩ = some (.int .i64 k) ∧ X.cell? ⟨b, o + 1, none⟩ = some (.int .u64 (word f 0)) ∧ X.cell? ⟨b, o + 2, none⟩ = some (.int .u64 (word f 1)) ∧ X.cell? ⟨b, o + 3, none⟩ = some (.int .u64 (word f 2)) ∧ X.cell? ⟨b, o + 4, none⟩ = some (.int .u64 (word f 3)) ∧ X.cell? ⟨b, o + 5, none⟩ = some (.slice ka kids.length kc) ∧ X.cell? ⟨b, o + 6, none⟩ = some (.int .i64 lo2) ∧ X.cell? ⟨b, o + 7, none⟩ = some (.int .i64 hi2))
                (first | exact ⟨QK.c0 (by first | assumption | exact QK.drew (by assumption) | exact QK.alloc (by assumption) _ | exact QK.drew (QK.alloc (by assumption) _) | exact QK.alloc (QK.drew (by assumption)) _), QK.c1 (by first | assumption | exact QK.drew (by assumption) | exact QK.alloc (by assumption) _ | exact QK.drew (QK.alloc (by assumption) _) | exact QK.alloc (QK.drew (by assumption)) _), HQ2.out _ (QK.bel (by first | assumption | exact QK.drew (by assumption) | exact QK.alloc (by assumption) _ | exact QK.drew (QK.alloc (by assumption) _) | exact QK.alloc (QK.drew (by assumption)) _))⟩ | assumption)
                (first
                  | (go_at_call 40; refine (timesOf_kept (W0 := W0) (B := w.heap.size + 2) (v := .slice (some ⟨g2, 0, none⟩) (st0.length + 1) cp2) (st := st0 ++ [((.slice (some ⟨b, o + 8, none⟩) m (bc - 1) : Value), rest, t)]) (nb := wr.heap.size) (sv := (.slice (some ⟨b, o, none⟩) (m + 1) bc)) (t := t) k f ka kids.length kc lo2 hi2 most HM12.out.1 HM12.out.2 ?_).mono ?_; (· repeat (first | assumption | apply QK.drew | apply QK.alloc)); rintro e w2 ⟨rfl, hK2⟩; rw [← HRP.out])
                  | (refine step_append_lies _ rfl (.tmp 61) (.tmp 73) 73 rfl (w.heap.size + 2) 72 i0 (.agg #[.slice none 0 0, .int .i64 0]) 2 32 Try.underlying73 hi0 hz0 hz1 hz2 rfl (by decide) (.slice (some ⟨g2, 0, none⟩) (st0.length + 1) cp2) (st0 ++ [((.slice (some ⟨b, o + 8, none⟩) m (bc - 1) : Value), rest, t)]).length (cellsS (st0 ++ [((.slice (some ⟨b, o + 8, none⟩) m (bc - 1) : Value), rest, t)])) rfl (QK.own (W0 := W0) (B := w.heap.size + 2) (v := .slice (some ⟨g2, 0, none⟩) (st0.length + 1) cp2) (st := st0 ++ [((.slice (some ⟨b, o + 8, none⟩) m (bc - 1) : Value), rest, t)]) (nb := wr.heap.size) (sv := (.slice (some ⟨b, o, none⟩) (m + 1) bc)) (t := t) (by repeat (first | assumption | apply QK.drew | apply QK.alloc))) ⟨_, 0, none⟩ 1 1 [.slice ka kids.length kc, .int .i64 (t * rp : Nat)] rfl rfl (two_new _ _ _ _ _ (by simp)) (two_ones _ _ _ _) (by decide) (by unfold maxLen; omega) (by omega) (QK.low (W0 := W0) (B := w.heap.size + 2) (v := .slice (some ⟨g2, 0, none⟩) (st0.length + 1) cp2) (st := st0 ++ [((.slice (some ⟨b, o + 8, none⟩) m (bc - 1) : Value), rest, t)]) (nb := wr.heap.size) (sv := (.slice (some ⟨b, o, none⟩) (m + 1) bc)) (t := t) (by repeat (first | assumption | apply QK.drew | apply QK.alloc))) _ rfl ?_; intro g5 cp5 w5 hown5 hgrow5 hat5 hlt5; have hK5 := QK.after (e := ((.slice ka kids.length kc : Value), kids, t * rp)) (show QK W0 (w.heap.size + 2) (.slice (some ⟨g2, 0, none⟩) (st0.length + 1) cp2) (st0 ++ [((.slice (some ⟨b, o + 8, none⟩) m (bc - 1) : Value), rest, t)]) wr.heap.size (.slice (some ⟨b, o, none⟩) (m + 1) bc) t _ from (by repeat (first | assumption | apply QK.drew | apply QK.alloc))) hgrow5 hown5 hat5))
              all_goals
                have HK5 := hidden hK5
                clear hK5 hown5 hgrow5 hat5 hKX
                go_wp2_with fail
                go_roundw
                case rel => exact ⟨s + t, st0 ++ [((.slice (some ⟨b, o + 8, none⟩) m (bc - 1) : Value), rest, t)] ++ [(.slice ka kids.length kc, kids, t * rp)], by go_num, by omega, HC9.out, by have h5 := HK5.out.own; rw [show (st0 ++ [((.slice (some ⟨b, o + 8, none⟩) m (bc - 1) : Value), rest, t)]).length = st0.length + 1 from by simp] at h5; exact h5, HK5.out.bel, HE9.out, HFIN.out⟩
                case measure => have := HEV.out.1; simp [intOf]; omega

end Go.Proofs.Ytjlihidmohokhaa
