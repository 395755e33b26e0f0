
/-
  What the document's own Trim answers at any steps that lie in memory; conditions: the list's and the texts' lengths.
-/
import Derived.Test.YtcjjboomljbmbaaVNear
import Derived.Test.YtcjjboomljbmbaaCPThen
namespace Go.Proofs.Ytcjjboomljbmbaa
open Go.RowKit Go.Proofs.Ytcjjboomljbmbaa.Ln Go.Proofs.Ytcjjboomljbmbaa.Ol

/-- so much around, held within bounds -/
def arn (n : Int) : Nat := (max 0 (min n 1000000)).toNat
theorem arn_le (n : Int) : arn n ≤ 1000000 := by unfold arn; omega
theorem cap_any (n : Int) (w : World) :
    Calls Try.prog 34 #[.int .i64 n, .int .i64 0, .int .i64 1000000] w fun e w' => e = .returned (.int .i64 (arn n : Nat)) ∧ w' = w := by
  by_cases h0 : n < 0
  · have HR := hidden (show ((arn n : Nat) : Int) = 0 by unfold arn; omega)
    go_enter Try.func34, Try.ntmps34
    go_wp2_with fail
    go_ret
    exact ⟨ret_int HR.out.symm, rfl⟩
  · by_cases h1 : n > 1000000
    · have HR := hidden (show ((arn n : Nat) : Int) = 1000000 by unfold arn; omega)
      go_enter Try.func34, Try.ntmps34
      go_wp2_with fail
      go_ret
      exact ⟨ret_int HR.out.symm, rfl⟩
    · have HR := hidden (show ((arn n : Nat) : Int) = n by unfold arn; omega)
      go_enter Try.func34, Try.ntmps34
      go_wp2_with fail
      go_ret
      exact ⟨ret_int HR.out.symm, rfl⟩
/-- what a step is, with so much around -/
def trX (a : Nat) (x : Oq) (b d : Option Nat) : Oq := if x.1 = 2 ∧ ¬ (lto b a || lto d a) = true then (1, 1, []) else x
theorem trO_at (a : Nat) (l : List Oq) : ∀ (pre : List Oq) (k : Nat) (x : Oq), l[k]? = some x → (trO a (dno pre.reverse) l)[k]? = some (trX a x (dno (pre ++ l.take k).reverse) (dno (l.drop (k + 1)))) := by
  induction l with
  | nil => intro pre k x h; cases h
  | cons y l ih =>
    intro pre k x h
    have hs : (if y.1 = 1 then none else if y.1 = 2 then (dno pre.reverse).map (· + 1) else some 0) = dno (pre ++ [y]).reverse := by
      rw [List.reverse_append]; rfl
    rw [trO, hs]
    cases k with
    | zero =>
      simp only [List.getElem?_cons_zero, Option.some.injEq] at h ⊢
      subst h
      rw [List.take_zero, List.append_nil]; rfl
    | succ k =>
      rw [List.getElem?_cons_succ] at h ⊢
      rw [ih (pre ++ [y]) k x h, List.append_assoc]; rfl
theorem trO_len (a : Nat) (l : List Oq) : ∀ b, (trO a b l).length = l.length := by
  induction l with
  | nil => intro b; rfl
  | cons x l ih => intro b; rw [trO, List.length_cons, List.length_cons, ih]
theorem trO_next (a : Nat) {l : List Oq} {k : Nat} {x : Oq} (h : l[k]? = some x) : (trO a none l).take (k + 1) = (trO a none l).take k ++ [trX a x (dno (l.take k).reverse) (dno (l.drop (k + 1)))] := take_snoc (trO_at a l [] k x h)

set_option maxRecDepth 3000 in
set_option maxHeartbeats 8000000 in
theorem ptrim_any (v : Value) (xs : List Oq) (n : Int) (w : World) (hX : OpsAt w v xs) (hl : xs.length ≤ 4398046511104) (hf : Fit xs) :
    Calls Try.prog 20 #[v, .int .i64 n] w fun e w' => ∃ v', e = .returned v' ∧ OpsAt w' v' (trm xs (arn n)) ∧ Below w.heap.size w w' := by
  have HF := hidden hf
  have HX := hidden hX
  obtain ⟨ao, cap, rfl⟩ := hX.shape
  clear hX hf
  cases hrt : right xs with
  | false =>
    have HN := hidden (show trm xs (arn n) = [] by unfold trm; rw [if_neg (by simp [hrt])])
    have HRT := hidden hrt
    clear hrt
    go_enter Try.func20, Try.ntmps20
    go_wp2_with fail
    refine (pright_any _ xs w HX.out (by omega) HF.out).mono ?_
    rw [HRT.out]
    rintro e w2 ⟨rfl, hb2⟩
    have HB2 := hidden hb2
    clear hb2
    go_wp2_with fail
    go_ret
    exact ⟨_, rfl, by rw [HN.out]; exact OpsAt.nil _ _ _, HB2.out⟩
  | true =>
    have HN := hidden (trm_right hrt (arn n))
    have HRT := hidden hrt
    have HAX := hidden (right_al0 hrt)
    have HAY := hidden (nrm_al0 (right_al0 hrt))
    have HLY := hidden (show (nrm xs).length ≤ 4294967296 from right_len (right_nrm hrt))
    have HTX := hidden (show tot 3 xs ≤ 549755813888 by have := (right_parts hrt).2.2.2.1; omega)
    have HTT := hidden (show tot 3 (trO (arn n) none (nrm xs)) ≤ 549755813888 by
      have h1 := su_facts _ (trO_al (arn n) _ (nrm_al0 (right_al0 hrt)) none)
      have h2 := su_facts _ (nrm_al0 (right_al0 hrt))
      have h3 := (tru_su (arn n) (ex (nrm xs)) none).1
      rw [← ex_trO _ _ (nrm_al0 (right_al0 hrt)), h1.1, h2.1] at h3
      have := (right_parts (right_nrm hrt)).2.2.2.1; omega)
    clear hrt
    go_enter Try.func20, Try.ntmps20
    go_wp2_with fail
    refine (pright_any _ xs w HX.out (by omega) HF.out).mono ?_
    rw [HRT.out]
    rintro e w2 ⟨rfl, hb2⟩
    have HB2 := hidden hb2
    have HX2 := hidden (HX.out.later hb2)
    clear hb2
    go_wp2_with fail
    refine (cap_any n w2).mono ?_
    rintro e w3 ⟨rfl, hw3⟩
    subst hw3
    have hal := arn_le n
    generalize hA : arn n = a at hal HN HTT
    have HA := hidden hA
    clear hA
    go_wp2_with fail
    refine (pnorm_any _ xs w3 HX2.out hl HAX.out HTX.out).mono ?_
    rintro e w5 ⟨v5, rfl, ho5, hb5⟩
    have HB5 := hidden (HB2.out.trans (hb5.mono HB2.out.size))
    have HO5 := hidden ho5
    have hs5 := HB5.out.size
    obtain ⟨bo, cp, rfl, hc5⟩ := ho5.open_
    have HC5 := hidden hc5
    clear hb5 ho5 hc5 HB2 HX2
    have hly := HLY.out
    generalize nrm xs = ys at HN HAY hly HTT HO5 HC5 ⊢
    clear HLY
    go_wp2_with fail
    go_loopw [5, 6] (fun q i wr => ∃ k : Nat, k ≤ ys.length ∧ i = .int .i64 k ∧ Hid (wr.ownsRow w5.heap.size 41 3 q k (cellsO ((trO a none ys).take k)) ∧ Below w5.heap.size w5 wr)) (fun _ i _ => ys.length - (intOf i).toNat)
    case atStart => exact ⟨0, Nat.zero_le _, rfl, ⟨rfl, Or.inl ⟨rfl, rfl⟩⟩, Below.refl _ _⟩
    case round =>
      obtain ⟨k, hk, rfl, hst⟩ := hrel
      have hws := hst.out.2.size
      have HLK := hidden (show ((trO a none ys).take k).length = k by rw [List.length_take, trO_len, Nat.min_eq_left hk])
      by_cases hlt : k < ys.length
      · obtain ⟨x1, x2, x3, hx⟩ := op_some hlt
        obtain ⟨b, o, hao, hcap, hb, hcc⟩ := HC5.out k _ hx
        obtain ⟨c1, c2, c3⟩ := three_later hb hst.out.2 hcc
        simp only at c1 c2 c3
        have HXK := hidden (trO_next a hx)
        subst hao
        clear hx hcc
        by_cases h2 : x1 = 2
        · subst h2
          have HOW := hidden ((HO5.out.later hst.out.2).later ((Below.refl wr.heap.size wr).alloc (Nat.le_refl _) (opO 2 x2 x3)))
          have HD := hidden (near_fwd _ ys k a (wr.alloc (opO 2 x2 x3)) HOW.out (by omega) HAY.out hlt hal)
          go_wp2_with fail
          refine HD.out.mono ?_
          clear HD
          obtain ⟨D, hD⟩ : ∃ D, lto (dno (ys.drop (k + 1))) a = D := ⟨_, rfl⟩
          have HDD := hidden hD
          rw [hD]
          clear hD
          rintro e w6 ⟨rfl, hb6⟩
          have HB6 := hidden hb6
          rw [World.size_alloc] at hb6
          obtain ⟨g1, g2, g3⟩ := three_at hb6
          have hs6 : wr.heap.size + 1 ≤ w6.heap.size := by have := hb6.size; rw [World.size_alloc] at this; omega
          clear hb6
          cases D with
          | true =>
            have HXQ := hidden (show (trO a none ys).take (k + 1) = (trO a none ys).take k ++ [(2, x2, x3)] by
              rw [HXK.out]; unfold trX; rw [HDD.out, if_neg (by simp)])
            have HO6 := hidden (owns_later (hst.out.1.alloc (opO 2 x2 x3)) HB6.out)
            have HL6 := hidden (show Below w5.heap.size w5 w6 from (bel_alloc hst.out.2 (opO 2 x2 x3)).trans (HB6.out.mono (by rw [World.size_alloc]; omega)))
            go_wp2_with (at_builtin; go_must (refine wpList_append_ops _ (by go_simp) (.tmp 43) (.tmp 45) rfl w5.heap.size _ (.slice (some ⟨w6.heap.size, 0, none⟩) 1 1) ((trO a none ys).take k) [(2, x2, x3)] rfl rfl (by rw [HLK.out]; exact HO6.out.alloc _) (ops_oneAt _ _ _ _ _ rfl) (by rw [HLK.out]; simp; omega) (by simp; omega) ?_; intro v9 w9 hown9 hadd9))
            have HK := hidden (show w9.ownsRow w5.heap.size 41 3 v9 (k + 1) (cellsO ((trO a none ys).take (k + 1))) ∧ Below w5.heap.size w5 w9 from ⟨by
              rw [List.length_append, HLK.out] at hown9
              rw [HXQ.out]; exact hown9, adds_bel (bel_alloc HL6.out _) (by simp; omega) (HO6.out.alloc (opO 2 x2 x3)) hadd9⟩)
            clear hown9 hadd9
            go_roundw
            case rel => exact ⟨k + 1, by omega, by go_num, HK.out⟩
            case measure => simp [intOf]; omega
          | false =>
            have HOW6 := hidden (HOW.out.later HB6.out)
            have HBK := hidden (near_back _ ys k a w6 HOW6.out (by omega) HAY.out hlt hal)
            go_wp2_with fail
            refine HBK.out.mono ?_
            clear HBK
            obtain ⟨B, hB⟩ : ∃ B, lto (dno (ys.take k).reverse) a = B := ⟨_, rfl⟩
            have HBB := hidden hB
            rw [hB]
            clear hB
            rintro e w7 ⟨rfl, hb7⟩
            have HB7 := hidden (HB6.out.trans (hb7.mono HB6.out.size))
            clear hb7
            have hb8 := HB7.out
            rw [World.size_alloc] at hb8
            obtain ⟨q1, q2, q3⟩ := three_at hb8
            have hs7 : wr.heap.size + 1 ≤ w7.heap.size := by have := hb8.size; rw [World.size_alloc] at this; omega
            clear hb8
            have HO7 := hidden (owns_later (hst.out.1.alloc (opO 2 x2 x3)) HB7.out)
            have HL7 := hidden (show Below w5.heap.size w5 w7 from (bel_alloc hst.out.2 (opO 2 x2 x3)).trans (HB7.out.mono (by rw [World.size_alloc]; omega)))
            cases B with
            | true =>
              have HXQ := hidden (show (trO a none ys).take (k + 1) = (trO a none ys).take k ++ [(2, x2, x3)] by
                rw [HXK.out]; unfold trX; rw [HBB.out, if_neg (by simp)])
              go_wp2_with (at_builtin; go_must (refine wpList_append_ops _ (by go_simp) (.tmp 43) (.tmp 45) rfl w5.heap.size _ (.slice (some ⟨w7.heap.size, 0, none⟩) 1 1) ((trO a none ys).take k) [(2, x2, x3)] rfl rfl (by rw [HLK.out]; exact HO7.out.alloc _) (ops_oneAt _ _ _ _ _ (by simp)) (by rw [HLK.out]; simp; omega) (by simp; omega) ?_; intro v9 w9 hown9 hadd9))
              have HK := hidden (show w9.ownsRow w5.heap.size 41 3 v9 (k + 1) (cellsO ((trO a none ys).take (k + 1))) ∧ Below w5.heap.size w5 w9 from ⟨by
                rw [List.length_append, HLK.out] at hown9
                rw [HXQ.out]; exact hown9, adds_bel (bel_alloc HL7.out _) (by simp; omega) (HO7.out.alloc _) hadd9⟩)
              clear hown9 hadd9
              go_roundw
              case rel => exact ⟨k + 1, by omega, by go_num, HK.out⟩
              case measure => simp [intOf]; omega
            | false =>
              have HXQ := hidden (show (trO a none ys).take (k + 1) = (trO a none ys).take k ++ [(1, 1, [])] by
                rw [HXK.out]; unfold trX; rw [HBB.out, HDD.out, if_pos (by simp)])
              have hn7 : w7.heap[wr.heap.size]? = some (opO 2 x2 x3) := (HB7.out.block _ (by rw [World.size_alloc]; omega)).trans (World.alloc_heap_new wr _)
              have th0 : w7.frozen? ⟨wr.heap.size, 0, none⟩ = false := by simp [World.frozen?, hn7, opO]
              have th1 : w7.frozen? ⟨wr.heap.size, 1, none⟩ = false := by simp [World.frozen?, hn7, opO]
              have th2 : w7.frozen? ⟨wr.heap.size, 2, none⟩ = false := by simp [World.frozen?, hn7, opO]
              have hno : ∀ i, u5.ownBlock ≠ some (⟨wr.heap.size, i, none⟩ : Addr).block := fun i e => by have := (hst.out.1.lt _ e).2; simp at this
              have HO8 := hidden (show (((w7.setCell ⟨wr.heap.size, 0, none⟩ (.int .i64 1)).setCell ⟨wr.heap.size, 1, none⟩ (.int .i64 1)).setCell ⟨wr.heap.size, 2, none⟩ (.string ⟨#[]⟩)).ownsRow w5.heap.size 41 3 u5 k (cellsO ((trO a none ys).take k)) from ownsRow_setCell_other (ownsRow_setCell_other (ownsRow_setCell_other HO7.out (hno 0) _) (hno 1) _) (hno 2) _)
              have HL8 := hidden (show Below w5.heap.size w5 (((w7.setCell ⟨wr.heap.size, 0, none⟩ (.int .i64 1)).setCell ⟨wr.heap.size, 1, none⟩ (.int .i64 1)).setCell ⟨wr.heap.size, 2, none⟩ (.string ⟨#[]⟩)) from bel_set (bel_set (bel_set HL7.out (b := wr.heap.size) (by omega)) (b := wr.heap.size) (by omega)) (b := wr.heap.size) (by omega))
              have hs8 : (((w7.setCell ⟨wr.heap.size, 0, none⟩ (.int .i64 1)).setCell ⟨wr.heap.size, 1, none⟩ (.int .i64 1)).setCell ⟨wr.heap.size, 2, none⟩ (.string ⟨#[]⟩)).heap.size = w7.heap.size := by simp
              clear hn7 hno
              go_wp2_with (at_builtin; go_must (refine wpList_append_ops _ (by go_simp) (.tmp 43) (.tmp 45) rfl w5.heap.size _ (.slice (some ⟨w7.heap.size, 0, none⟩) 1 1) ((trO a none ys).take k) [(1, 1, [])] rfl rfl (by rw [HLK.out]; exact HO8.out.alloc _) (ops_oneAt (((w7.setCell ⟨wr.heap.size, 0, none⟩ (.int .i64 1)).setCell ⟨wr.heap.size, 1, none⟩ (.int .i64 1)).setCell ⟨wr.heap.size, 2, none⟩ (.string ⟨#[]⟩)) _ _ _ _ (by simp)) (by rw [HLK.out]; simp; omega) (by simp; omega) ?_; intro v9 w9 hown9 hadd9))
              have HK := hidden (show w9.ownsRow w5.heap.size 41 3 v9 (k + 1) (cellsO ((trO a none ys).take (k + 1))) ∧ Below w5.heap.size w5 w9 from ⟨by
                rw [List.length_append, HLK.out] at hown9
                rw [HXQ.out]; exact hown9, adds_bel (bel_alloc HL8.out _) (by simp; omega) (HO8.out.alloc _) hadd9⟩)
              clear hown9 hadd9
              go_roundw
              case rel => exact ⟨k + 1, by omega, by go_num, HK.out⟩
              case measure => simp [intOf]; omega
        · have h2b : (x1 == 2) = false := by simpa using h2
          have HXQ := hidden (show (trO a none ys).take (k + 1) = (trO a none ys).take k ++ [(x1, x2, x3)] by
            rw [HXK.out]; unfold trX; rw [if_neg (fun h => h2 h.1)])
          have HO7 := hidden (hst.out.1.alloc (opO x1 x2 x3))
          have HL7 := hidden (bel_alloc hst.out.2 (opO x1 x2 x3))
          go_wp2_with (at_builtin; go_must (refine wpList_append_ops _ (by go_simp) (.tmp 43) (.tmp 45) rfl w5.heap.size _ (.slice (some ⟨wr.heap.size + 1, 0, none⟩) 1 1) ((trO a none ys).take k) [(x1, x2, x3)] rfl rfl (by rw [HLK.out]; exact HO7.out.alloc _) (ops_oneAt _ _ _ _ _ (by simp)) (by rw [HLK.out]; simp; omega) (by simp; omega) ?_; intro v9 w9 hown9 hadd9))
          have HK := hidden (show w9.ownsRow w5.heap.size 41 3 v9 (k + 1) (cellsO ((trO a none ys).take (k + 1))) ∧ Below w5.heap.size w5 w9 from ⟨by
            rw [List.length_append, HLK.out] at hown9
            rw [HXQ.out]; exact hown9, adds_bel (bel_alloc HL7.out _) (by simp; omega) (HO7.out.alloc _) hadd9⟩)
          clear hown9 hadd9
          go_roundw
          case rel => exact ⟨k + 1, by omega, by go_num, HK.out⟩
          case measure => simp [intOf]; omega
      · have hke : (trO a none ys).take k = trO a none ys := List.take_of_length_le (by rw [trO_len]; omega)
        rw [hke] at hst HLK
        have HOP := hidden (OpsAt.of_owns hst.out.1)
        have HAT := hidden (trO_al a ys HAY.out none)
        have HLL := hidden (trO_len a ys none)
        obtain ⟨a7, n7, p7, rfl⟩ : ∃ a n c, u5 = .slice a n c := by obtain ⟨a, c, e⟩ := HOP.out.shape; exact ⟨_, _, _, e⟩
        have HBR := hidden (HB5.out.trans (hst.out.2.mono HB5.out.size))
        go_wp2_with fail
        refine (pnorm_any _ (trO a none ys) wr HOP.out (by rw [HLL.out]; omega) HAT.out HTT.out).mono ?_
        rintro e w7 ⟨v7, rfl, ho7, hb7⟩
        have HB7 := hidden (HBR.out.trans (hb7.mono HBR.out.size))
        have HO7 := hidden ho7
        have HL7 := hidden (show (nrm (trO a none ys)).length ≤ 4398046511104 by
          have h1 := nfo_len (trO a none ys)
          unfold nrm; rw [List.length_append, HLL.out] at *
          omega)
        obtain ⟨a8, n8, p8, rfl⟩ : ∃ a n c, v7 = .slice a n c := by obtain ⟨a, c, e⟩ := ho7.shape; exact ⟨_, _, _, e⟩
        clear hb7 ho7
        go_wp2_with fail
        refine (prest_any _ (nrm (trO a none ys)) w7 HO7.out HL7.out).mono ?_
        rintro e w8 ⟨v8, rfl, ho8, hb8⟩
        have HB8 := hidden (HB7.out.trans (hb8.mono HB7.out.size))
        have HO8 := hidden ho8
        clear hb8 ho8
        go_wp2_with fail
        go_ret
        exact ⟨_, rfl, by rw [HA.out, HN.out]; exact HO8.out, HB8.out⟩

end Go.Proofs.Ytcjjboomljbmbaa
