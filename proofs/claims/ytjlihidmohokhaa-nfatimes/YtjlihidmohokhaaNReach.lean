/-
  What the document's own reach answers: to which places a node comes from some places; conditions: how many parts the node has, that it may be, and the text's length.
-/
import Derived.Test.YtjlihidmohokhaaNBools
import Derived.Test.YtjlihidmohokhaaQRight
import Derived.Deep.Cut
import Derived.Deep.CutRange
import Derived.BigRegion
namespace Go.Proofs.Ytjlihidmohokhaa
open Go.RowKit Go.Proofs.Ytjlihidmohokhaa.Gl

/-- how many marks -/
def cntB (H : Bs) : Nat → Nat
  | 0 => 0
  | n + 1 => cntB H n + if H n = true then 1 else 0
theorem cntB_le (H : Bs) (n : Nat) : cntB H n ≤ n := by
  induction n with
  | zero => exact Nat.le_refl _
  | succ n ih => rw [cntB]; split <;> omega
theorem cntB_mono {H K : Bs} (n : Nat) (h : ∀ j, j < n → H j = true → K j = true) : cntB H n ≤ cntB K n := by
  induction n with
  | zero => exact Nat.le_refl _
  | succ n ih =>
    have := ih (fun j hj => h j (by omega))
    rw [cntB, cntB]
    by_cases e : H n = true
    · rw [if_pos e, if_pos (h n (by omega) e)]; omega
    · rw [if_neg e]; split <;> omega
theorem cntB_more {H K : Bs} (n : Nat) (h : ∀ j, j < n → H j = true → K j = true) (i : Nat) (hi : i < n) (h1 : H i = false) (h2 : K i = true) : cntB H n < cntB K n := by
  induction n with
  | zero => omega
  | succ n ih =>
    rw [cntB, cntB]
    by_cases e : i = n
    · subst e
      have := cntB_mono i (fun j hj => h j (by omega))
      rw [if_neg (by rw [h1]; decide), if_pos h2]
      omega
    · have := ih (fun j hj => h j (by omega)) (by omega)
      by_cases e2 : H n = true
      · rw [if_pos e2, if_pos (h n (by omega) e2)]; omega
      · rw [if_neg e2]; split <;> omega
theorem moreB_at {H K : Bs} {n : Nat} (h : moreB H K n = true) : ∃ j, j < n ∧ H j = true ∧ K j = false := by
  obtain ⟨j, hj, h2⟩ := List.any_eq_true.1 h
  simp at h2
  exact ⟨j, List.mem_range.1 hj, h2.1, h2.2⟩
/-- a step of a set -/
theorem set_zero (s : Tx) (f : Bs) (kids : List Nd) (lo hi : Int) (F : Pl) : dec (toP (tk s (.mk 2 f kids lo hi)) F) 0 = false := by
  rw [dec_false, to_set]
  rintro ⟨i, h, _⟩
  omega
theorem set_next (s : Tx) (f : Bs) (kids : List Nd) (lo hi : Int) (F : Pl) (i : Nat) (hi0 : i < s.length) : dec (toP (tk s (.mk 2 f kids lo hi)) F) (i + 1) = (dec F i && f (s.getD i 0).toNat) := by
  apply dec_is
  rw [to_set]
  constructor
  · rintro ⟨j, hj, h1, _, h3⟩
    obtain rfl : j = i := by omega
    rw [dec_true.2 h1, h3]; rfl
  · intro h
    simp only [Bool.and_eq_true] at h
    exact ⟨i, rfl, dec_true.1 h.1, hi0, h.2⟩
/-- marks up to a place -/
def upB (H : Bs) (n : Nat) : Bs := fun j => decide (j ≤ n) && H j
theorem upB_step {H : Bs} {n : Nat} {b : Bool} (hb : b = H (n + 1)) (x : Nat) : upB H (n + 1) x = if x = n + 1 then b else upB H n x := by
  unfold upB
  split
  · rename_i h; subst h; rw [hb]; simp
  · rename_i h
    congr 1
    rw [decide_eq_decide]
    omega

/-- what is kept while a set's places are marked -/
structure RK (w : World) (O g n : Nat) (H K : Bs) (f : Bs) (kv : Value) (lo hi : Int) (X : World) : Prop where
  bel : Below w.heap.size w X
  blk : Blk X w.heap.size (.int .i64 2) (.int .u64 (word f 0)) (.int .u64 (word f 1)) (.int .u64 (word f 2)) (.int .u64 (word f 3)) kv (.int .i64 lo) (.int .i64 hi)
  out : Bools X O n H
  inn : Bools X g n K
theorem RK.drew {w : World} {O g n : Nat} {H K : Bs} {f : Bs} {kv : Value} {lo hi : Int} {X : World} (h : RK w O g n H K f kv lo hi X) : RK w O g n H K f kv lo hi X.drew := ⟨h.bel.drew, h.blk.drew, h.out.drew, h.inn.drew⟩
theorem RK.drewN {w : World} {O g n : Nat} {H K : Bs} {f : Bs} {kv : Value} {lo hi : Int} {X : World} (h : RK w O g n H K f kv lo hi X) (t : Nat) : RK w O g n H K f kv lo hi (X.drewN t) := ⟨below_drewN h.bel t, h.blk.drewN t, h.out.drewN t, h.inn.drewN t⟩
theorem RK.set {w : World} {O g n : Nat} {H K : Bs} {f : Bs} {kv : Value} {lo hi : Int} {X : World} (h : RK w O g n H K f kv lo hi X) (hO : w.heap.size < O) (hg : g < O) (j : Nat) (b : Bool) (H' : Bs) (he : ∀ x, x < n → H' x = if x = j then b else H x) : RK w O g n H' K f kv lo hi (X.setCell ⟨O, j, none⟩ (.bool b)) :=
  ⟨h.bel.setCell (p := ⟨O, j, none⟩) (Nat.le_of_lt hO) _, h.blk.other (by omega), h.out.set j b H' he, h.inn.other (by omega)⟩
theorem RK.later {w : World} {O g n : Nat} {H K : Bs} {f : Bs} {kv : Value} {lo hi : Int} {X Y : World} (h : RK w O g n H K f kv lo hi X) (hb : Below X.heap.size X Y) : RK w O g n H K f kv lo hi Y :=
  ⟨h.bel.trans (hb.mono h.bel.size), h.blk.later hb, h.out.later hb, h.inn.later hb⟩
theorem inSet_kept {w : World} {O g n : Nat} {H K : Bs} {f : Bs} {kv : Value} {lo hi : Int} {X : World} (kids : List Nd) (A : Nat → Prop) (hn : NodeAt w A (nodeV 2 f kv lo hi) (.mk 2 f kids lo hi)) (c : UInt8) (h : RK w O g n H K f kv lo hi X) :
    Calls Try.prog 36 #[nodeV 2 f kv lo hi, .int .u8 c.toNat] X fun e w' => e = .returned (.bool (f c.toNat)) ∧ RK w O g n H K f kv lo hi w' := by
  refine (inSet_any _ _ c X A (hn.later h.bel)).mono ?_
  rintro e w2 ⟨rfl, hb⟩
  exact ⟨rfl, h.later hb⟩

set_option maxRecDepth 4000 in
set_option maxHeartbeats 16000000 in
theorem reach_any (s : Tx) (hs : s.length ≤ 1000) : ∀ (N : Nat) (x : Nd), cntN x ≤ N → N ≤ 1048576 → ∀ (most : Nat), rqN x most = true → ∀ (F : Pl), (∀ i, F i → i ≤ s.length) → ∀ (v : Value) (g c : Nat) (w : World) (A : Nat → Prop), NodeAt w A v x → Bools w g (s.length + 1) (dec F) →
    Calls Try.prog 26 #[v, S s, bs g (s.length + 1) c] w fun e w' => (∃ q c', e = .returned (bs q (s.length + 1) c') ∧ w.heap.size ≤ q ∧ Bools w' q (s.length + 1) (dec (toP (tk s x) F))) ∧ Below w.heap.size w w' := by
  intro N
  induction N with
  | zero => intro x hx; have := cntN_pos x; omega
  | succ N ih =>
    intro x hx hN most hrq F hFL v g c w A hnode hF
    have HFL := hidden hFL
    clear hFL
    obtain ⟨i0, hi0, hz0, hz1, hz2⟩ := info_parts Try.info4
    obtain ⟨k, f, kids, lo, hi⟩ := x
    obtain ⟨kv, rfl, hkids0⟩ := hnode.open
    have HNODE := hidden hnode
    obtain ⟨a, cap, vs, rfl, hvl, hcap, hcells, hkids⟩ := hkids0
    rw [cntN] at hx
    have hlen := cnts_len kids
    obtain ⟨m, rfl⟩ : ∃ m, most = m + 1 := by
      cases most with
      | zero => cases hrq
      | succ m => exact ⟨m, rfl⟩
    rw [rqN_is] at hrq
    simp only [Bool.and_eq_true] at hrq
    have HAL := hidden hrq.1
    have HALL := hidden (List.all_eq_true.1 hrq.2)
    have HIH := hidden ih
    have HKI := hidden hkids
    have HCE := hidden hcells
    have HCN := hidden (cnts_at kids)
    have hxb : kids.length ≤ 1048576 := by omega
    have hcn : cnts kids ≤ N := by omega
    have HF := hidden hF
    have hgl := hF.lt
    have HB0 := hidden (Below.refl w.heap.size w)
    have HC0 := hidden (Blk.new w (.int .i64 k) (.int .u64 (word f 0)) (.int .u64 (word f 1)) (.int .u64 (word f 2)) (.int .u64 (word f 3)) (.slice a kids.length cap) (.int .i64 lo) (.int .i64 hi))
    have hks : k = 1 ∨ k = 2 ∨ k = 3 ∨ k = 4 ∨ k = 5 ∨ k = 6 ∨ k = 7 := by
      have h9 := HAL.out
      unfold aloneN at h9
      split at h9
      · omega
      split at h9
      · omega
      split at h9
      · omega
      split at h9
      · omega
      · cases h9
    clear ih hkids hcells hnode hx hlen hrq hF
    unfold nodeV S
    go_enter Try.func26, Try.ntmps26
    go_upto_region 1 with fail
    generalize hW1 : World.alloc _ _ = W1
    have HB1 := hidden (show Below w.heap.size w W1 by rw [← hW1]; (with_reducible (repeat (first | exact HB0.out | apply bel_alloc | apply bel_put | apply bel_set | apply Below.drew | apply below_drewN | omega))))
    have HC1 := hidden (show Blk W1 w.heap.size (.int .i64 k) (.int .u64 (word f 0)) (.int .u64 (word f 1)) (.int .u64 (word f 2)) (.int .u64 (word f 3)) (.slice a kids.length cap) (.int .i64 lo) (.int .i64 hi) by rw [← hW1]; (with_reducible (repeat (first | exact HC0.out | exact Blk.newAt (by simp) | apply Blk.alloc | apply Blk.put | apply Blk.putOther | apply Blk.other | apply Blk.drewN | apply Blk.drew | omega))))
    clear hW1
    go_upto_region 2 with (at_make; refine wpList_make_full _ rfl _ _ 40 rfl W1.heap.size 4 i0 (.bool false) 1 Try.underlying40 hi0 hz0 hz1 .i64 .i64 _ _ (s.length + 1) rfl rfl (by omega) (by omega) (by rw [hz2]; omega) (by unfold maxLen; omega) (by simp) ?_; intro w1 hown1 hgrow1)
    have hBb : Below W1.heap.size W1 w1 := (Below.refl W1.heap.size W1).grown hgrow1 (Nat.le_refl _) (fun k hk => by cases hk)
    have HT1 := hidden (Bools.of_made hown1)
    have HC2 := hidden (HC1.out.later hBb)
    have HF2 := hidden ((HF.out.later HB1.out).later hBb)
    have hOl := HC1.out.lt
    have hgO := (HF.out.later HB1.out).lt
    have HB2 := hidden (HB1.out.trans (hBb.mono (Nat.le_of_lt hOl)))
    clear hown1 hgrow1 hBb HB1 HC1 HC0 HB0
    generalize W1.heap.size = O at *
    obtain ⟨c0, c1, c2, c3, c4, c5, c6, c7⟩ := HC2.out.cells
    have hcl := HC2.out.lt
    have hOl2 := HT1.out.lt
    have hgl2 := HF2.out.lt
    rcases hks with rfl | rfl | rfl | rfl | rfl | rfl | rfl
    · -- nothing
      go_wp2_with (refine wpList_copy_bools rfl _ _ rfl O g (s.length + 1) _ _ _ _ rfl rfl HT1.out HF2.out O w1 (Below.refl O w1) (Nat.le_refl _) hgO ?_; intro w2 hq2 _ hb2)
      go_ret
      exact ⟨⟨O, _, rfl, by omega, by rw [to_empty]; exact hq2⟩, HB2.out.trans (hb2.mono (by omega))⟩
    · -- a set
      go_wp2_with fail
      clear c0 c1 c2 c3 c4 c5 c6 c7
      have HRK := hidden (show RK w O g (s.length + 1) (upB (dec (toP (tk s (.mk 2 f kids lo hi)) F)) 0) (dec F) f (.slice a kids.length cap) lo hi w1 from ⟨HB2.out, HC2.out, HT1.out.ext (fun y _ => by
        unfold upB
        by_cases e : y = 0
        · rw [e, set_zero, Bool.and_false]; rfl
        · rw [decide_eq_false (by omega)]; rfl), HF2.out⟩)
      go_loopw [8] (fun i wr => ∃ j : Nat, i = .int .i64 j ∧ j ≤ s.length ∧ Hid (RK w O g (s.length + 1) (upB (dec (toP (tk s (.mk 2 f kids lo hi)) F)) j) (dec F) f (.slice a kids.length cap) lo hi wr)) (fun i _ => s.length - (intOf i).toNat)
      case atStart => exact ⟨0, rfl, Nat.zero_le _, HRK.out⟩
      case round =>
        obtain ⟨j, rfl, hj, hrow⟩ := hrel
        by_cases hlt : j < s.length
        · have hji : (j : Int) < s.length := by omega
          obtain ⟨e0, e1, e2, e3, e4, e5, e6, e7⟩ := hrow.out.blk.cells
          have hel := hrow.out.blk.lt
          have g0 := hrow.out.inn.cell (j := j) (by omega)
          have t0 := hrow.out.out.cell (j := j + 1) (by omega)
          have f0 := hrow.out.out.thawed (j + 1)
          have l1 := hrow.out.inn.lt
          have l2 := hrow.out.out.lt
          obtain ⟨x, hx⟩ : ∃ x, s.getD j 0 = x := ⟨_, rfl⟩
          have hbx : ∀ h, (⟨s.toArray⟩ : ByteArray)[j]'h = x := fun h => by rw [byte_at, hx]
          have HST := hidden (set_next s f kids lo hi F j hlt)
          rw [hx] at HST
          clear hx
          cases hdf : dec F j with
          | false =>
            have HS2 := hidden (show ∀ y, y < s.length + 1 → upB (dec (toP (tk s (.mk 2 f kids lo hi)) F)) (j + 1) y = if y = j + 1 then false else upB (dec (toP (tk s (.mk 2 f kids lo hi)) F)) j y from fun y _ => upB_step (by rw [HST.out, hdf]; rfl) y)
            rw [hdf] at g0
            clear hdf
            go_upto_region 9 with fail
            go_region
            all_goals
              have HX := hidden (show RK w O g (s.length + 1) (upB (dec (toP (tk s (.mk 2 f kids lo hi)) F)) (j + 1)) (dec F) f (.slice a kids.length cap) lo hi _ from (hrow.out.set hOl hgO (j + 1) false _ HS2.out))
              clear e0 e1 e2 e3 e4 e5 e6 e7 g0 t0 f0
              go_wp2_with fail
              go_roundw
              case rel => exact ⟨j + 1, by go_num, by omega, HX.out.drew⟩
              case measure => simp [intOf]; omega
          | true =>
            have HS2 := hidden (show ∀ y, y < s.length + 1 → upB (dec (toP (tk s (.mk 2 f kids lo hi)) F)) (j + 1) y = if y = j + 1 then f x.toNat else upB (dec (toP (tk s (.mk 2 f kids lo hi)) F)) j y from fun y _ => upB_step (by rw [HST.out, hdf]; rfl) y)
            rw [hdf] at g0
            clear hdf
            go_upto_region 9 with fail
            have hK := hrow.out
            go_region_with (go_at_call 36; refine (inSet_kept (w := w) (O := O) (g := g) (n := s.length + 1) (H := upB (dec (toP (tk s (.mk 2 f kids lo hi)) F)) j) (K := dec F) (f := f) (kv := .slice a kids.length cap) (lo := lo) (hi := hi) kids A HNODE.out x ?_).mono ?_; (· repeat (first | assumption | apply RK.drew)); rintro e w2 ⟨rfl, hK2⟩; have z0 := hK2.inn.cell (j := j) (by omega); have z1 := hK2.out.cell (j := j + 1) (by omega); have z2 := hK2.out.thawed (j + 1); have z3 := hK2.out.lt; have z4 := hK2.inn.lt)
            all_goals
              have HX := hidden (show RK w O g (s.length + 1) (upB (dec (toP (tk s (.mk 2 f kids lo hi)) F)) (j + 1)) (dec F) f (.slice a kids.length cap) lo hi _ from (hK2.set hOl hgO (j + 1) (f x.toNat) _ HS2.out))
              clear hK hK2 z0 z1 z2 z3 z4 e0 e1 e2 e3 e4 e5 e6 e7 g0 t0 f0
              go_wp2_with fail
              go_roundw
              case rel => exact ⟨j + 1, by go_num, by omega, HX.out⟩
              case measure => simp [intOf]; omega
        · have hj2 : j = s.length := by omega
          subst hj2
          have hji : ¬ (s.length : Int) < s.length := by omega
          go_wp2_with fail
          go_ret
          exact ⟨⟨O, ⟨_, rfl⟩, by omega, hrow.out.out.ext fun y hy => by unfold upB; rw [decide_eq_true (by omega)]; rfl⟩, hrow.out.bel⟩
    · -- one behind the other
      go_wp2_with (refine wpList_copy_bools rfl _ _ rfl O g (s.length + 1) _ _ _ _ rfl rfl HT1.out HF2.out O w1 (Below.refl O w1) (Nat.le_refl _) hgO ?_; intro w2 hq2 _ hb2)
      have HB3 := hidden (HB2.out.trans (hb2.mono (by omega)))
      have HC3 := hidden (HC2.out.keep (hb2.block _ (by omega)))
      have HQ3 := hidden hq2
      clear hq2 hb2 c0 c1 c2 c3 c4 c5 c6 c7
      have HFP := hidden (show ∀ j y, toP (catK s (kids.take j)) F y → y ≤ s.length from fun j y h => by
        obtain ⟨i, h1, h2⟩ := h
        exact (catK_between s _ i y h2 (HFL.out i h1)).2)
      go_loopw [7, 9] (fun o i wr => ∃ j q c' : Nat, o = bs q (s.length + 1) c' ∧ i = .int .i64 j ∧ j ≤ kids.length ∧ w.heap.size ≤ q ∧ Hid (Below w.heap.size w wr ∧ Blk wr w.heap.size (.int .i64 3) (.int .u64 (word f 0)) (.int .u64 (word f 1)) (.int .u64 (word f 2)) (.int .u64 (word f 3)) (.slice a kids.length cap) (.int .i64 lo) (.int .i64 hi) ∧ Bools wr q (s.length + 1) (dec (toP (catK s (kids.take j)) F)))) (fun _ i _ => kids.length - (intOf i).toNat)
      case atStart => exact ⟨0, O, _, rfl, rfl, Nat.zero_le _, by omega, HB3.out, HC3.out, by rw [List.take_zero, catK_nil]; exact HQ3.out⟩
      case round =>
        obtain ⟨j, q, cq, rfl, rfl, hj, hwq, hrow⟩ := hrel
        obtain ⟨e0, e1, e2, e3, e4, e5, e6, e7⟩ := hrow.out.2.1.cells
        have hel := hrow.out.2.1.lt
        by_cases hlt : j < kids.length
        · have hji : (j : Int) < kids.length := by omega
          obtain ⟨d, hd⟩ : ∃ d, kids[j]? = some d := ⟨_, List.getElem?_eq_getElem hlt⟩
          obtain ⟨u, hu⟩ : ∃ u, vs[j]? = some u := ⟨_, List.getElem?_eq_getElem (by omega)⟩
          have hne : kids ≠ [] := fun e => by rw [e] at hlt; simp at hlt
          obtain ⟨b, o, rfl, hA, hce⟩ := HCE.out hne
          have hnc := hce j u hu
          have hbl := hnc.lt
          have hnc2 := hnc.keep (hrow.out.1.block b hbl)
          obtain ⟨c0, c1, c2, c3, c4, c5, c6, c7, rfl, q0, q1, q2, q3, q4, q5, q6, q7⟩ := hnc2
          have hN1 := HKI.out j _ d hu hd
          have hN2 := hN1.later hrow.out.1
          obtain ⟨z, y0, y1, y2, y3, sa, sn, sc, lo2, hi2, hsh⟩ := hN1.shapeI
          injection hsh with hsh
          simp at hsh
          obtain ⟨rfl, rfl, rfl, rfl, rfl, rfl, rfl, rfl⟩ := hsh
          have HN2 := hidden hN2
          have hcd := HCN.out j d hd
          have hcd2 : cntN d ≤ N := by omega
          have HCD := hidden hcd2
          have HD := hidden hd
          have HDR := hidden (HALL.out d (List.mem_of_getElem? hd))
          have hblr : b < wr.heap.size := Nat.lt_of_lt_of_le hbl hrow.out.1.size
          clear hN1 hN2 hce hnc hu hd hA hcd hcd2 hne
          go_wp2_with fail
          refine (HIH.out d HCD.out (by omega) m HDR.out _ (HFP.out j) _ q cq _ A (by (with_reducible (repeat (first | exact HN2.out | apply NodeAt.alloc | apply NodeAt.putN | apply NodeAt.other | apply NodeAt.putO | apply NodeAt.otherO | apply NodeAt.drewN | apply NodeAt.drew | omega)))) hrow.out.2.2).mono ?_
          rintro e w2 ⟨⟨r, cr, rfl, hr, hbo⟩, hb2⟩
          have HB4 := hidden (show Below w.heap.size w w2 from hrow.out.1.trans (hb2.mono hrow.out.1.size))
          have HC4 := hidden (Blk.later hrow.out.2.1 hb2)
          have HQ4 := hidden (show Bools w2 r (s.length + 1) (dec (toP (catK s (kids.take (j + 1))) F)) by
            obtain ⟨hj2, hd2⟩ := List.getElem?_eq_some_iff.1 HD.out
            rw [List.take_succ_eq_append_getElem hj2, hd2, catK_snoc]; exact hbo)
          have hwr := hrow.out.1.size
          clear hb2 hbo
          go_wp2_with fail
          go_roundw
          case rel => exact ⟨j + 1, r, cr, rfl, by go_num, by omega, by omega, HB4.out, HC4.out, HQ4.out⟩
          case measure => simp [intOf]; omega
        · have hji : ¬ (j : Int) < kids.length := by omega
          go_wp2_with fail
          go_ret
          exact ⟨⟨q, ⟨cq, rfl⟩, hwq, by
            have h9 := hrow.out.2.2
            rw [List.take_of_length_le (by omega)] at h9
            rw [to_cat]; exact h9⟩, hrow.out.1⟩
    · -- one of several
      go_wp2_with fail
      clear c0 c1 c2 c3 c4 c5 c6 c7
      go_loopw [7, 10] (fun o i wr => ∃ j q c' : Nat, o = bs q (s.length + 1) c' ∧ i = .int .i64 j ∧ j ≤ kids.length ∧ w.heap.size ≤ q ∧ Hid (Below w.heap.size w wr ∧ Blk wr w.heap.size (.int .i64 4) (.int .u64 (word f 0)) (.int .u64 (word f 1)) (.int .u64 (word f 2)) (.int .u64 (word f 3)) (.slice a kids.length cap) (.int .i64 lo) (.int .i64 hi) ∧ Bools wr q (s.length + 1) (dec (toP (altK s (kids.take j)) F)) ∧ Bools wr g (s.length + 1) (dec F))) (fun _ i _ => kids.length - (intOf i).toNat)
      case atStart => exact ⟨0, O, _, rfl, rfl, Nat.zero_le _, by omega, HB2.out, HC2.out, HT1.out.ext (fun y _ => by
        rw [List.take_zero]
        exact dec_false.2 (fun ⟨i, _, h⟩ => by rw [altK] at h; exact h)), HF2.out⟩
      case round =>
        obtain ⟨j, q, cq, rfl, rfl, hj, hwq, hrow⟩ := hrel
        obtain ⟨e0, e1, e2, e3, e4, e5, e6, e7⟩ := hrow.out.2.1.cells
        have hel := hrow.out.2.1.lt
        by_cases hlt : j < kids.length
        · have hji : (j : Int) < kids.length := by omega
          obtain ⟨d, hd⟩ : ∃ d, kids[j]? = some d := ⟨_, List.getElem?_eq_getElem hlt⟩
          obtain ⟨u, hu⟩ : ∃ u, vs[j]? = some u := ⟨_, List.getElem?_eq_getElem (by omega)⟩
          have hne : kids ≠ [] := fun e => by rw [e] at hlt; simp at hlt
          obtain ⟨b, o, rfl, hA, hce⟩ := HCE.out hne
          have hnc := hce j u hu
          have hbl := hnc.lt
          have hnc2 := hnc.keep (hrow.out.1.block b hbl)
          obtain ⟨c0, c1, c2, c3, c4, c5, c6, c7, rfl, q0, q1, q2, q3, q4, q5, q6, q7⟩ := hnc2
          have hN1 := HKI.out j _ d hu hd
          have hN2 := hN1.later hrow.out.1
          obtain ⟨z, y0, y1, y2, y3, sa, sn, sc, lo2, hi2, hsh⟩ := hN1.shapeI
          injection hsh with hsh
          simp at hsh
          obtain ⟨rfl, rfl, rfl, rfl, rfl, rfl, rfl, rfl⟩ := hsh
          have HN2 := hidden hN2
          have hcd := HCN.out j d hd
          have hcd2 : cntN d ≤ N := by omega
          have HCD := hidden hcd2
          have HD := hidden hd
          have HDR := hidden (HALL.out d (List.mem_of_getElem? hd))
          have hblr : b < wr.heap.size := Nat.lt_of_lt_of_le hbl hrow.out.1.size
          clear hN1 hN2 hce hnc hu hd hA hcd hcd2 hne
          go_wp2_with fail
          refine (HIH.out d HCD.out (by omega) m HDR.out _ HFL.out _ g c _ A (by (with_reducible (repeat (first | exact HN2.out | apply NodeAt.alloc | apply NodeAt.putN | apply NodeAt.other | apply NodeAt.putO | apply NodeAt.otherO | apply NodeAt.drewN | apply NodeAt.drew | omega)))) hrow.out.2.2.2).mono ?_
          rintro e w2 ⟨⟨r, cr, rfl, hr, hbo⟩, hb2⟩
          have HB4 := hidden (show Below w.heap.size w w2 from hrow.out.1.trans (hb2.mono hrow.out.1.size))
          have HC4 := hidden (Blk.later hrow.out.2.1 hb2)
          have HQ4 := hidden (Bools.later hrow.out.2.2.1 hb2)
          have HF4 := hidden (Bools.later hrow.out.2.2.2 hb2)
          have HR4 := hidden hbo
          have hwr := hrow.out.1.size
          clear hb2 hbo
          go_wp2_with fail
          refine (both_any q r (s.length + 1) _ _ _ _ _ (by omega) (by omega) HQ4.out HR4.out).mono ?_
          rintro e w3 ⟨⟨r2, rfl, hr2, hbo⟩, hb3⟩
          have hw2 := HB4.out.size
          have HB5 := hidden (show Below w.heap.size w w3 from HB4.out.trans (hb3.mono hw2))
          have HC5 := hidden (Blk.later HC4.out hb3)
          have HF5 := hidden (Bools.later HF4.out hb3)
          have HQ5 := hidden (show Bools w3 r2 (s.length + 1) (dec (toP (altK s (kids.take (j + 1))) F)) by
            obtain ⟨hj2, hd2⟩ := List.getElem?_eq_some_iff.1 HD.out
            refine hbo.ext fun y _ => dec_is ?_
            rw [List.take_succ_eq_append_getElem hj2, hd2, altK_snoc, Bool.or_eq_true, dec_true, dec_true])
          clear hb3 hbo
          go_wp2_with fail
          go_roundw
          case rel => exact ⟨j + 1, r2, _, rfl, by go_num, by omega, by omega, HB5.out, HC5.out, HQ5.out, HF5.out⟩
          case measure => simp [intOf]; omega
        · have hji : ¬ (j : Int) < kids.length := by omega
          go_wp2_with fail
          go_ret
          exact ⟨⟨q, ⟨cq, rfl⟩, hwq, by
            have h9 := hrow.out.2.2.1
            rw [List.take_of_length_le (by omega)] at h9
            rw [to_alt]; exact h9⟩, hrow.out.1⟩
    · -- times
      have h5 := HAL.out
      simp [aloneN, okTimes] at h5
      have hkl : kids.length = 1 := by omega
      have hlo0 : 0 ≤ lo := by omega
      have hlo1 : lo ≤ 200 := by omega
      have hhi1 : hi ≤ 200 := by omega
      have hlh : hi < 0 ∨ lo ≤ hi := by omega
      clear h5
      obtain ⟨L, rfl⟩ : ∃ L : Nat, lo = L := ⟨lo.toNat, by omega⟩
      have hlt : 0 < kids.length := by omega
      have hji : (0 : Int) < kids.length := by omega
      obtain ⟨d, hd⟩ : ∃ d, kids[0]? = some d := ⟨_, List.getElem?_eq_getElem hlt⟩
      have hkd : kids = [d] := by
        match kids, hkl, hd with
        | [x], _, hd => simp at hd; rw [hd]
      have HTI := hidden (show toP (tk s (.mk 5 f kids L hi)) F = timesP (tk s d) L hi F by rw [hkd]; exact to_times s f d L hi F)
      have hcd := HCN.out 0 d hd
      have HCD := hidden (show cntN d ≤ N by omega)
      have HD := hidden hd
      have HDR := hidden (HALL.out d (List.mem_of_getElem? hd))
      clear hkd hd hcd
      go_wp2_with (at_builtin; refine wpList_append_bools rfl _ _ rfl g (s.length + 1) c _ rfl rfl HF2.out (by omega) (by omega) ?_; intro q2 cq2 w2 hq2 hbo2 hb2)
      have HB3 := hidden (HB2.out.trans (hb2.mono HB2.out.size))
      have HC3 := hidden (HC2.out.later hb2)
      have HQ3 := hidden hbo2
      have hq3 : w.heap.size ≤ q2 := Nat.le_trans HB2.out.size hq2
      clear hb2 hbo2 c0 c1 c2 c3 c4 c5 c6 c7
      have HFP := hidden (show ∀ j y, toP (iterR (tk s d) j) F y → y ≤ s.length from fun j y h => by
        obtain ⟨i, h1, h2⟩ := h
        exact (iterR_between (fun a b => tk_between s d a b) _ i y h2 (HFL.out i h1)).2)
      go_loopw [11, 12] (fun o i wr => ∃ j q c' : Nat, o = bs q (s.length + 1) c' ∧ i = .int .i64 j ∧ j ≤ L ∧ w.heap.size ≤ q ∧ Hid (Below w.heap.size w wr ∧ Blk wr w.heap.size (.int .i64 5) (.int .u64 (word f 0)) (.int .u64 (word f 1)) (.int .u64 (word f 2)) (.int .u64 (word f 3)) (.slice a kids.length cap) (.int .i64 L) (.int .i64 hi) ∧ Bools wr q (s.length + 1) (dec (toP (iterR (tk s d) j) F)))) (fun _ i _ => L - (intOf i).toNat)
      case atStart => exact ⟨0, q2, cq2, rfl, rfl, Nat.zero_le _, hq3, HB3.out, HC3.out, HQ3.out.ext (fun y _ => dec_is (by
        rw [dec_true]
        constructor
        · rintro ⟨i, h, e⟩; rw [← show i = y from e]; exact h
        · intro h; exact ⟨y, h, rfl⟩))⟩
      case round =>
        obtain ⟨j, q, cq, rfl, rfl, hj, hwq, hrow⟩ := hrel
        obtain ⟨e0, e1, e2, e3, e4, e5, e6, e7⟩ := hrow.out.2.1.cells
        have hel := hrow.out.2.1.lt
        by_cases hjl : j < L
        · have hjli : (j : Int) < L := by omega
          obtain ⟨u, hu⟩ : ∃ u, vs[0]? = some u := ⟨_, List.getElem?_eq_getElem (by omega)⟩
          have hd := HD.out
          have hne : kids ≠ [] := fun e => by rw [e] at hlt; simp at hlt
          obtain ⟨b, o, rfl, hA, hce⟩ := HCE.out hne
          have hnc := hce 0 u hu
          rw [Nat.zero_mul, Nat.add_zero] at hnc
          have hbl := hnc.lt
          have hnc2 := hnc.keep (hrow.out.1.block b hbl)
          obtain ⟨c0, c1, c2, c3, c4, c5, c6, c7, rfl, q0, q1, q2, q3, q4, q5, q6, q7⟩ := hnc2
          have hN1 := HKI.out 0 _ d hu hd
          have hN2 := hN1.later hrow.out.1
          obtain ⟨z, y0, y1, y2, y3, sa, sn, sc, lo2, hi2, hsh⟩ := hN1.shapeI
          injection hsh with hsh
          simp at hsh
          obtain ⟨rfl, rfl, rfl, rfl, rfl, rfl, rfl, rfl⟩ := hsh
          have HN2 := hidden hN2
          have hblr : b < wr.heap.size := Nat.lt_of_lt_of_le hbl hrow.out.1.size
          clear hN1 hN2 hce hnc hu hd hA hne
          go_wp2_with fail
          refine (HIH.out d HCD.out (by omega) m HDR.out _ (HFP.out j) _ q cq _ A (by (with_reducible (repeat (first | exact HN2.out | apply NodeAt.alloc | apply NodeAt.putN | apply NodeAt.other | apply NodeAt.putO | apply NodeAt.otherO | apply NodeAt.drewN | apply NodeAt.drew | omega)))) hrow.out.2.2).mono ?_
          rintro e w2 ⟨⟨r, cr, rfl, hr, hbo⟩, hb2⟩
          have HB4 := hidden (show Below w.heap.size w w2 from hrow.out.1.trans (hb2.mono hrow.out.1.size))
          have HC4 := hidden (Blk.later hrow.out.2.1 hb2)
          have HQ4 := hidden (show Bools w2 r (s.length + 1) (dec (toP (iterR (tk s d) (j + 1)) F)) by rw [← to_iter]; exact hbo)
          have hwr := hrow.out.1.size
          clear hb2 hbo
          go_wp2_with fail
          go_roundw
          case rel => exact ⟨j + 1, r, cr, rfl, by go_num, by omega, by omega, HB4.out, HC4.out, HQ4.out⟩
          case measure => simp [intOf]; omega
        · have hjL : L = j := by omega
          subst hjL
          have hjli : ¬ (L : Int) < L := by omega
          go_wp2_with fail
          have HB4 := hidden hrow.out.1
          have HC4 := hidden hrow.out.2.1
          have HQ4 := hidden hrow.out.2.2
          clear hrow e0 e1 e2 e3 e4 e5 e6 e7
          go_loopw [7, 11, 13] (fun o p i wr => ∃ k q cq r cr : Nat, o = bs q (s.length + 1) cq ∧ p = bs r (s.length + 1) cr ∧ i = .int .i64 k ∧ L ≤ k ∧ (hi < 0 ∨ (k : Int) ≤ hi) ∧ k - L ≤ cntB (dec (upToR (tk s d) L k F)) (s.length + 1) ∧ w.heap.size ≤ q ∧ w.heap.size ≤ r ∧ Hid (Below w.heap.size w wr ∧ Blk wr w.heap.size (.int .i64 5) (.int .u64 (word f 0)) (.int .u64 (word f 1)) (.int .u64 (word f 2)) (.int .u64 (word f 3)) (.slice a kids.length cap) (.int .i64 L) (.int .i64 hi) ∧ Bools wr q (s.length + 1) (dec (upToR (tk s d) L k F)) ∧ Bools wr r (s.length + 1) (dec (toP (iterR (tk s d) k) F)))) (fun _ _ i _ => L + s.length + 2 - (intOf i).toNat)
          case atStart => exact ⟨L, q, cq, q, cq, rfl, rfl, rfl, Nat.le_refl _, hlh, by omega, hwq, hwq, HB4.out, HC4.out, by rw [upToR_self]; exact HQ4.out, HQ4.out⟩
          case round =>
            clear HB4 HC4 HQ4
            clear hwq
            obtain ⟨k, q, cq, r, cr, rfl, rfl, rfl, hLk, hkh, hct, hwq, hwrr, hrow⟩ := hrel
            obtain ⟨e0, e1, e2, e3, e4, e5, e6, e7⟩ := hrow.out.2.1.cells
            have hel := hrow.out.2.1.lt
            have hcm := cntB_le (dec (upToR (tk s d) L k F)) (s.length + 1)
            by_cases hgo : hi < 0
            · skip
              obtain ⟨u, hu⟩ : ∃ u, vs[0]? = some u := ⟨_, List.getElem?_eq_getElem (by omega)⟩
              have hd := HD.out
              have hne : kids ≠ [] := fun e => by rw [e] at hlt; simp at hlt
              obtain ⟨b, o, rfl, hA, hce⟩ := HCE.out hne
              have hnc := hce 0 u hu
              rw [Nat.zero_mul, Nat.add_zero] at hnc
              have hbl := hnc.lt
              have hnc2 := hnc.keep (hrow.out.1.block b hbl)
              obtain ⟨c0, c1, c2, c3, c4, c5, c6, c7, rfl, q0, q1, q2, q3, q4, q5, q6, q7⟩ := hnc2
              have hN1 := HKI.out 0 _ d hu hd
              have hN2 := hN1.later hrow.out.1
              obtain ⟨z, y0, y1, y2, y3, sa, sn, sc, lo2, hi2, hsh⟩ := hN1.shapeI
              injection hsh with hsh
              simp at hsh
              obtain ⟨rfl, rfl, rfl, rfl, rfl, rfl, rfl, rfl⟩ := hsh
              have HN2 := hidden hN2
              have hblr : b < wr.heap.size := Nat.lt_of_lt_of_le hbl hrow.out.1.size
              clear hN1 hN2 hce hnc hu hd hA hne
              have hlw : IntKind.i64.wrap ((k : Int) + 1) = (k : Int) + 1 := by rw [IntKind.wrap_i64]; omega
              clear hlw
              go_wp2_with fail
              refine (HIH.out d HCD.out (by omega) m HDR.out _ (HFP.out k) _ r cr _ A (by (with_reducible (repeat (first | exact HN2.out | apply NodeAt.alloc | apply NodeAt.putN | apply NodeAt.other | apply NodeAt.putO | apply NodeAt.otherO | apply NodeAt.drewN | apply NodeAt.drew | omega)))) hrow.out.2.2.2).mono ?_
              rintro e w2 ⟨⟨r2, cr2, rfl, hr2, hbo⟩, hb2⟩
              have HB4 := hidden (show Below w.heap.size w w2 from hrow.out.1.trans (hb2.mono hrow.out.1.size))
              have HC4 := hidden (Blk.later hrow.out.2.1 hb2)
              have HQ4 := hidden (Bools.later hrow.out.2.2.1 hb2)
              have HR4 := hidden (show Bools w2 r2 (s.length + 1) (dec (toP (iterR (tk s d) (k + 1)) F)) by rw [← to_iter]; exact hbo)
              have hwr := hrow.out.1.size
              clear hb2 hbo
              go_wp2_with fail
              refine (more_any r2 q (s.length + 1) _ _ _ _ _ (by omega) HR4.out HQ4.out).mono ?_
              rintro e w3 ⟨rfl, rfl⟩
              cases hm : moreB (dec (toP (iterR (tk s d) (k + 1)) F)) (dec (upToR (tk s d) L k F)) (s.length + 1) with
              | false =>
                have HE := hidden (show toP (tk s (.mk 5 f kids L hi)) F = upToR (tk s d) L k F by
                  rw [HTI.out]
                  refine timesP_stop _ hLk (by omega) F fun y hy => ?_
                  have hyl : y < s.length + 1 := by
                    obtain ⟨i, hF9, hy9⟩ := hy
                    have := (iterR_between (fun a b => tk_between s d a b) _ _ _ hy9 (HFL.out i hF9)).2
                    omega
                  exact dec_true.1 (moreB_none hm y hyl (dec_true.2 hy)))
                clear hm
                go_wp2_with fail
                go_ret
                exact ⟨⟨q, cq, rfl, hwq, by rw [HE.out]; exact HQ4.out⟩, HB4.out⟩
              | true =>
                have HM := hidden hm
                clear hm
                go_wp2_with fail
                refine (both_any q r2 (s.length + 1) _ _ _ _ _ (by omega) (by omega) HQ4.out HR4.out).mono ?_
                rintro e w4 ⟨⟨q5, rfl, hq5, hbo⟩, hb4⟩
                have hw3 := HB4.out.size
                have HB5 := hidden (show Below w.heap.size w w4 from HB4.out.trans (hb4.mono hw3))
                have HC5 := hidden (Blk.later HC4.out hb4)
                have HR5 := hidden (Bools.later HR4.out hb4)
                have HE5 := hidden (show ∀ y, dec (upToR (tk s d) L (k + 1) F) y = (dec (upToR (tk s d) L k F) y || dec (toP (iterR (tk s d) (k + 1)) F) y) from fun y => by
                  apply dec_is
                  rw [upToR_next _ hLk, Bool.or_eq_true, dec_true, dec_true])
                have HQ5 := hidden (show Bools w4 q5 (s.length + 1) (dec (upToR (tk s d) L (k + 1) F)) from hbo.ext fun y _ => HE5.out y)
                have hct2 : k + 1 - L ≤ cntB (dec (upToR (tk s d) L (k + 1) F)) (s.length + 1) := by
                  obtain ⟨y, hy, hy1, hy2⟩ := moreB_at HM.out
                  have h9 := cntB_more (H := dec (upToR (tk s d) L k F)) (K := dec (upToR (tk s d) L (k + 1) F)) (s.length + 1) (fun x _ hx => by rw [HE5.out, hx]; rfl) y hy hy2 (by rw [HE5.out, hy1, hy2]; rfl)
                  omega
                clear hb4 hbo
                go_wp2_with fail
                go_roundw
                case rel => exact ⟨k + 1, q5, _, r2, cr2, rfl, rfl, by go_num, by omega, by omega, hct2, by omega, by omega, HB5.out, HC5.out, HQ5.out, HR5.out⟩
                case measure => simp [intOf]; omega
            · by_cases hgo2 : (k : Int) < hi
              · skip
                obtain ⟨u, hu⟩ : ∃ u, vs[0]? = some u := ⟨_, List.getElem?_eq_getElem (by omega)⟩
                have hd := HD.out
                have hne : kids ≠ [] := fun e => by rw [e] at hlt; simp at hlt
                obtain ⟨b, o, rfl, hA, hce⟩ := HCE.out hne
                have hnc := hce 0 u hu
                rw [Nat.zero_mul, Nat.add_zero] at hnc
                have hbl := hnc.lt
                have hnc2 := hnc.keep (hrow.out.1.block b hbl)
                obtain ⟨c0, c1, c2, c3, c4, c5, c6, c7, rfl, q0, q1, q2, q3, q4, q5, q6, q7⟩ := hnc2
                have hN1 := HKI.out 0 _ d hu hd
                have hN2 := hN1.later hrow.out.1
                obtain ⟨z, y0, y1, y2, y3, sa, sn, sc, lo2, hi2, hsh⟩ := hN1.shapeI
                injection hsh with hsh
                simp at hsh
                obtain ⟨rfl, rfl, rfl, rfl, rfl, rfl, rfl, rfl⟩ := hsh
                have HN2 := hidden hN2
                have hblr : b < wr.heap.size := Nat.lt_of_lt_of_le hbl hrow.out.1.size
                clear hN1 hN2 hce hnc hu hd hA hne
                have hlw : IntKind.i64.wrap ((k : Int) + 1) = (k : Int) + 1 := by rw [IntKind.wrap_i64]; omega
                clear hlw
                go_wp2_with fail
                refine (HIH.out d HCD.out (by omega) m HDR.out _ (HFP.out k) _ r cr _ A (by (with_reducible (repeat (first | exact HN2.out | apply NodeAt.alloc | apply NodeAt.putN | apply NodeAt.other | apply NodeAt.putO | apply NodeAt.otherO | apply NodeAt.drewN | apply NodeAt.drew | omega)))) hrow.out.2.2.2).mono ?_
                rintro e w2 ⟨⟨r2, cr2, rfl, hr2, hbo⟩, hb2⟩
                have HB4 := hidden (show Below w.heap.size w w2 from hrow.out.1.trans (hb2.mono hrow.out.1.size))
                have HC4 := hidden (Blk.later hrow.out.2.1 hb2)
                have HQ4 := hidden (Bools.later hrow.out.2.2.1 hb2)
                have HR4 := hidden (show Bools w2 r2 (s.length + 1) (dec (toP (iterR (tk s d) (k + 1)) F)) by rw [← to_iter]; exact hbo)
                have hwr := hrow.out.1.size
                clear hb2 hbo
                go_wp2_with fail
                refine (more_any r2 q (s.length + 1) _ _ _ _ _ (by omega) HR4.out HQ4.out).mono ?_
                rintro e w3 ⟨rfl, rfl⟩
                cases hm : moreB (dec (toP (iterR (tk s d) (k + 1)) F)) (dec (upToR (tk s d) L k F)) (s.length + 1) with
                | false =>
                  have HE := hidden (show toP (tk s (.mk 5 f kids L hi)) F = upToR (tk s d) L k F by
                    rw [HTI.out]
                    refine timesP_stop _ hLk (by omega) F fun y hy => ?_
                    have hyl : y < s.length + 1 := by
                      obtain ⟨i, hF9, hy9⟩ := hy
                      have := (iterR_between (fun a b => tk_between s d a b) _ _ _ hy9 (HFL.out i hF9)).2
                      omega
                    exact dec_true.1 (moreB_none hm y hyl (dec_true.2 hy)))
                  clear hm
                  go_wp2_with fail
                  go_ret
                  exact ⟨⟨q, cq, rfl, hwq, by rw [HE.out]; exact HQ4.out⟩, HB4.out⟩
                | true =>
                  have HM := hidden hm
                  clear hm
                  go_wp2_with fail
                  refine (both_any q r2 (s.length + 1) _ _ _ _ _ (by omega) (by omega) HQ4.out HR4.out).mono ?_
                  rintro e w4 ⟨⟨q5, rfl, hq5, hbo⟩, hb4⟩
                  have hw3 := HB4.out.size
                  have HB5 := hidden (show Below w.heap.size w w4 from HB4.out.trans (hb4.mono hw3))
                  have HC5 := hidden (Blk.later HC4.out hb4)
                  have HR5 := hidden (Bools.later HR4.out hb4)
                  have HE5 := hidden (show ∀ y, dec (upToR (tk s d) L (k + 1) F) y = (dec (upToR (tk s d) L k F) y || dec (toP (iterR (tk s d) (k + 1)) F) y) from fun y => by
                    apply dec_is
                    rw [upToR_next _ hLk, Bool.or_eq_true, dec_true, dec_true])
                  have HQ5 := hidden (show Bools w4 q5 (s.length + 1) (dec (upToR (tk s d) L (k + 1) F)) from hbo.ext fun y _ => HE5.out y)
                  have hct2 : k + 1 - L ≤ cntB (dec (upToR (tk s d) L (k + 1) F)) (s.length + 1) := by
                    obtain ⟨y, hy, hy1, hy2⟩ := moreB_at HM.out
                    have h9 := cntB_more (H := dec (upToR (tk s d) L k F)) (K := dec (upToR (tk s d) L (k + 1) F)) (s.length + 1) (fun x _ hx => by rw [HE5.out, hx]; rfl) y hy hy2 (by rw [HE5.out, hy1, hy2]; rfl)
                    omega
                  clear hb4 hbo
                  go_wp2_with fail
                  go_roundw
                  case rel => exact ⟨k + 1, q5, _, r2, cr2, rfl, rfl, by go_num, by omega, by omega, hct2, by omega, by omega, HB5.out, HC5.out, HQ5.out, HR5.out⟩
                  case measure => simp [intOf]; omega
              · have HE := hidden (show toP (tk s (.mk 5 f kids L hi)) F = upToR (tk s d) L k F by
                  rw [HTI.out, show hi = (k : Int) by omega]
                  exact timesP_bounded _ _ _ _)
                go_wp2_with fail
                go_ret
                exact ⟨⟨q, ⟨cq, rfl⟩, hwq, by rw [HE.out]; exact hrow.out.2.2.1⟩, hrow.out.1⟩
    · -- the beginning
      have g0 := HF2.out.cell (j := 0) (by omega)
      have t0 := HT1.out.cell (j := 0) (by omega)
      have f0 := HT1.out.thawed 0
      have HR := hidden (show ∀ y, y < s.length + 1 → dec (toP (tk s (.mk 6 f kids lo hi)) F) y = if y = 0 then dec F 0 else none_ y from fun y _ => by
        apply dec_is
        rw [to_begin]
        split
        · rename_i h; rw [dec_true]; simp [h]
        · rename_i h; simp [h, none_])
      go_wp2_with fail
      go_ret
      exact ⟨⟨O, _, rfl, by omega, HT1.out.set 0 _ _ HR.out⟩, HB2.out.setCell (p := ⟨O, 0, none⟩) (by show _ ≤ O; omega) _⟩
    · -- the end
      have g0 := HF2.out.cell (j := s.length) (by omega)
      have t0 := HT1.out.cell (j := s.length) (by omega)
      have f0 := HT1.out.thawed s.length
      have HR := hidden (show ∀ y, y < s.length + 1 → dec (toP (tk s (.mk 7 f kids lo hi)) F) y = if y = s.length then dec F s.length else none_ y from fun y _ => by
        apply dec_is
        rw [to_end]
        split
        · rename_i h; rw [dec_true]; simp [h]
        · rename_i h; simp [h, none_])
      go_wp2_with fail
      go_ret
      exact ⟨⟨O, _, rfl, by omega, HT1.out.set s.length _ _ HR.out⟩, HB2.out.setCell (p := ⟨O, s.length, none⟩) (by show _ ≤ O; omega) _⟩

end Go.Proofs.Ytjlihidmohokhaa
