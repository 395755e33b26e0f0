
/-
  What the document's own Do answers at any steps and lines that lie in memory: what comes of lines by steps; conditions: the lists' and texts' lengths.
-/
import Derived.Test.YtmbalnjobcgpkaaADone
import Derived.Test.YtmbalnjobcgpkaaOPRight
namespace Go.Proofs.Ytmbalnjobcgpkaa
open Go.RowKit Go.Proofs.Ytmbalnjobcgpkaa.Ln Go.Proofs.Ytmbalnjobcgpkaa.Ol

theorem RowAt.room {w : World} {ao : Option Addr} {n cap : Nat} {xs : List Tx} (h : RowAt w (.slice ao n cap) xs) : n ≤ cap := by
  rcases h with ⟨_, a, c, e, _⟩ | ⟨b, o, c, e, h2, _⟩
  · cases e; exact Nat.zero_le _
  · cases e; exact h2
/-- the rest of a list, whatever it is -/
theorem RowAt.rest2 {w : World} {ao : Option Addr} {n cap k : Nat} {xs : List Tx} (h : RowAt w (.slice ao n cap) xs) (hn : n = xs.length) (hk : k ≤ n) : RowAt w (.slice (if cap = k then ao else Option.map (fun x => x.add k) ao) (n - k) (cap - k)) (xs.drop k) := by
  by_cases h0 : n - k = 0
  · rw [h0, List.drop_of_length_le (by omega)]
    refine RowAt.nil _ _ _ fun e => ?_
    rcases h with ⟨_, a, c, e2, e3⟩ | ⟨b, o, c, e2, _⟩
    · cases e2
      by_cases hc : cap = k
      · omega
      · rw [if_neg hc] at e
        have : ao = none := by cases ao with | none => rfl | some _ => cases e
        have := e3 this
        omega
    · cases e2
      by_cases hc : cap = k
      · omega
      · rw [if_neg hc] at e; cases e
  · rcases h with ⟨rfl, a, c, e2, e3⟩ | ⟨b, o, c, e2, h3⟩
    · simp at hn; omega
    · cases e2
      have hr := RowAt.rest (k := k) (Or.inr ⟨b, o, cap, rfl, h3⟩ : RowAt w (.slice (some ⟨b, o, none⟩) xs.length cap) xs) rfl hk
      have hc : ¬ cap = k := by have := h3.1; omega
      rw [if_neg hc]
      simpa [addr_add] using hr
/-- where the doing stands, by a place -/
structure PK (w : World) (old : List Tx) (l : List Oq) (q : Value) (out : List Tx) (p : Nat) (W : World) : Prop where
  st : dsl old l = some (out, p)
  own : W.ownsRow w.heap.size 9 1 q out.length (out.map S)
  bel : Below w.heap.size w W

/-- a variable that was made last reads as it did behind an append -/
theorem adds_cell {wr W W' : World} {B n : Nat} {q v' : Value} {cs : List Value} (ho : wr.ownsRow B 9 1 q n cs) (ha : Adds W W' q v') (hp : wr.heap.size < W.heap.size) (i : Nat) : W'.cell? ⟨wr.heap.size, i, none⟩ = W.cell? ⟨wr.heap.size, i, none⟩ :=
  ha.1.cell_far ⟨wr.heap.size, i, none⟩ hp (fun e => by have h2 : wr.heap.size < wr.heap.size := (ho.lt _ e.symm).2; omega)

set_option maxRecDepth 3000 in
set_option maxHeartbeats 8000000 in
theorem pdo_any (v : Value) (xs : List Oq) (u : Value) (old : List Tx) (w : World) (hX : OpsAt w v xs) (hY : RowAt w u old) (hl : xs.length + old.length ≤ 4398046511104) (hf : Fit xs) (hfo : FitT old) :
    Calls Try.prog 14 #[v, u] w fun e w' => Ans w (doo xs old) e w' := by
  have HF := hidden hf
  have HFO := hidden hfo
  have HX := hidden hX
  have HY := hidden hY
  obtain ⟨ao, cap, rfl, hc⟩ := hX.open_
  have HC := hidden hc
  obtain ⟨bo, cap2, rfl, hc2⟩ := hY.open_
  have HC2 := hidden hc2
  clear hX hY hf hfo hc hc2
  cases hrt : right xs with
  | false =>
    have HN := hidden (show doo xs old = none by unfold doo; rw [if_neg (by simp [hrt])])
    have HRT := hidden hrt
    clear hrt
    go_enter Try.func14, Try.ntmps14
    go_wp2_with fail
    refine (pright_any _ xs w HX.out (by omega) HF.out).mono ?_
    rw [HRT.out]
    rintro e w2 ⟨rfl, hb2⟩
    have HB2 := hidden hb2
    clear hb2
    go_wp2_with fail
    go_ret2
    exact Ans.none HN.out HB2.out
  | true =>
    have HRT := hidden hrt
    have HAL := hidden (right_al0 hrt)
    clear hrt
    cases hwh : wh old with
    | false =>
      have HN := hidden (show doo xs old = none by unfold doo; rw [if_neg (by simp [hwh])])
      have HWH := hidden hwh
      clear hwh
      go_enter Try.func14, Try.ntmps14
      go_wp2_with fail
      refine (pright_any _ xs w HX.out (by omega) HF.out).mono ?_
      rw [HRT.out]
      rintro e w2 ⟨rfl, hb2⟩
      have HB2 := hidden hb2
      have HY2 := hidden (HY.out.later hb2)
      clear hb2
      go_wp2_with fail
      refine (refWhole_any _ old w2 HY2.out (by omega) HFO.out).mono ?_
      rw [HWH.out]
      rintro e w3 ⟨rfl, hb3⟩
      have HB3 := hidden (HB2.out.trans (hb3.mono HB2.out.size))
      clear hb3
      go_wp2_with fail
      go_ret2
      exact Ans.none HN.out HB3.out
    | true =>
      have HWH := hidden hwh
      clear hwh
      go_enter Try.func14, Try.ntmps14
      go_wp2_with fail
      refine (pright_any _ xs w HX.out (by omega) HF.out).mono ?_
      rw [HRT.out]
      rintro e w2 ⟨rfl, hb2⟩
      have HB2 := hidden hb2
      have HY2 := hidden (HY.out.later hb2)
      clear hb2
      go_wp2_with fail
      refine (refWhole_any _ old w2 HY2.out (by omega) HFO.out).mono ?_
      rw [HWH.out]
      rintro e w3 ⟨rfl, hb3⟩
      have HB3 := hidden (HB2.out.trans (hb3.mono HB2.out.size))
      clear hb3
      go_wp2_with fail
      go_loopw [6, 7, 8] (fun q z i wr => ∃ (k p : Nat) (out : List Tx), k ≤ xs.length ∧ i = .int .i64 k ∧ z = .int .i64 p ∧ Hid (PK w old (xs.take k) q out p wr)) (fun _ _ i _ => xs.length - (intOf i).toNat)
      case atStart => exact ⟨0, 0, [], Nat.zero_le _, rfl, rfl, ⟨rfl, World.ownsRow_nil _ _ _ _, HB3.out⟩⟩
      case round =>
        obtain ⟨k, p, out, hk, rfl, rfl, hPK⟩ := hrel
        have hdn := dn old (xs.take k) (fun y hy => HAL.out y (List.mem_of_mem_take hy)) out p hPK.out.st
        have hlen := hdn.len
        have hle := hdn.le
        rw [List.length_take, Nat.min_eq_left hk] at hlen
        clear hdn
        have hws := hPK.out.bel.size
        by_cases hlt : k < xs.length
        · obtain ⟨x1, x2, x3, hx⟩ := op_some hlt
          obtain ⟨b, o, hao, hcap, hb, hcc⟩ := HC.out k _ hx
          subst hao
          obtain ⟨c1, c2, c3⟩ := three_later hb hPK.out.bel hcc
          simp only at c1 c2 c3
          have hal := HAL.out _ (List.mem_of_getElem? hx)
          simp only [al0] at hal
          have HXK := hidden hx
          clear hx hcc
          by_cases h1 : x1 = 1
          · subst h1
            have hx2 : 1 ≤ x2 := by omega
            by_cases hfit : (p : Int) + x2 ≤ old.length
            · obtain ⟨n, rfl⟩ : ∃ n : Nat, x2 = n := ⟨x2.toNat, by omega⟩
              have hpn : p + n ≤ old.length := by omega
              have hn1 : 1 ≤ n := by omega
              have HD := hidden (show dsl old (xs.take (k + 1)) = some (out ++ (old.drop p).take n, p + n) by rw [dsl_take HXK.out, hPK.out.st, ds_skip n rfl hpn])
              obtain ⟨t0, ht0⟩ : ∃ t, old[p]? = some t := ⟨old[p]'(by omega), List.getElem?_eq_getElem _⟩
              obtain ⟨b2, o2, hbo, hcap2, hb2, _⟩ := HC2.out p t0 ht0
              subst hbo
              have HH := hidden (show RowAt w (.slice (some ⟨b2, o2 + p, none⟩) n (cap2 - p)) ((old.drop p).take n) from RowAt.head (RowAt.rest HY.out rfl hle) (by rw [List.length_drop]) (by omega))
              have HTL := hidden (show ((old.drop p).take n).length = n by rw [List.length_take, List.length_drop]; omega)
              have hnc : p + n ≤ cap2 := by omega
              have hcp : ¬ cap2 = p := by omega
              have hcp2 : ¬ cap2 - p = 0 := by omega
              have hd : decide ((old.length : Int) - p < n) = false := by simp; omega
              have hd2 : ¬ (old.length : Int) - p < n := by omega
              have HB4 := hidden (bel_alloc hPK.out.bel (opO 1 n x3))
              have HO4 := hidden (hPK.out.own.alloc (opO 1 n x3))
              clear hfit hal hx2 ht0
              go_wp2_with (at_builtin; go_must (refine wpList_append_txt _ (by go_simp) (.tmp 62) (.tmp 69) rfl w.heap.size _ _ out ((old.drop p).take n) rfl rfl HO4.out (by have h := HH.out.later HB4.out; simp [Act.eval, go_sem]; exact h) (by have := HTL.out; omega) (by simp; omega) ?_; intro v9 w9 hown9 hadd9; have c9 : w9.cell? ⟨wr.heap.size, 1, none⟩ = some (.int .i64 n) := (adds_cell hPK.out.own hadd9 (by simp) 1).trans (by simp)))
              have HK := hidden (show PK w old (xs.take (k + 1)) v9 (out ++ (old.drop p).take n) (p + n) w9 from ⟨HD.out, hown9, adds_bel HB4.out (by simp; omega) HO4.out hadd9⟩)
              clear hown9 hadd9
              go_roundw
              case rel => exact ⟨k + 1, p + n, _, by omega, by go_num, by go_num, HK.out⟩
              case measure => simp [intOf]; omega
            · have HN := hidden (show doo xs old = none from doo_stop HXK.out hPK.out.st (ds_skip_no hfit))
              have hd : decide ((old.length : Int) - p < x2) = true := by simp; omega
              have hd2 : (old.length : Int) - p < x2 := by omega
              have HB4 := hidden (bel_alloc hPK.out.bel (opO 1 x2 x3))
              go_wp2_with fail
              go_ret2
              exact Ans.none HN.out HB4.out
          · have h1b : (x1 == 1) = false := by simpa using h1
            by_cases h4 : x1 = 4
            · subst h4
              have HD := hidden (show dsl old (xs.take (k + 1)) = some (out ++ [x3], p) by rw [dsl_take HXK.out, hPK.out.st, ds_ins])
              go_wp2_with (at_builtin; go_must (refine wpList_append_txt _ (by go_simp) (.tmp 77) (.tmp 80) rfl w.heap.size _ (.slice (some ⟨wr.heap.size + 1, 0, none⟩) 1 1) out [x3] rfl rfl ((hPK.out.own.alloc _).alloc _) (row_one _ _ _ (by simp)) (by simp; omega) (by simp; omega) ?_; intro v9 w9 hown9 hadd9))
              have HK := hidden (show PK w old (xs.take (k + 1)) v9 (out ++ [x3]) p w9 from ⟨HD.out, hown9, adds_bel (bel_alloc (bel_alloc hPK.out.bel _) _) (by simp; omega) ((hPK.out.own.alloc (opO 4 x2 x3)).alloc (.cells #[.string ⟨x3.toArray⟩] 9)) hadd9⟩)
              clear hown9 hadd9
              go_roundw
              case rel => exact ⟨k + 1, p, out ++ [x3], by omega, by go_num, rfl, HK.out⟩
              case measure => simp [intOf]; omega
            · have h4b : (x1 == 4) = false := by simpa using h4
              have HB4 := hidden (bel_alloc hPK.out.bel (opO x1 x2 x3))
              by_cases hpl : p < old.length
              · obtain ⟨t0, ht0⟩ : ∃ t, old[p]? = some t := ⟨old[p]'(by omega), List.getElem?_eq_getElem _⟩
                obtain ⟨b2, o2, hbo, hcap2, hb2, hcell2⟩ := HC2.out p t0 ht0
                subst hbo
                have hcell3 : wr.cell? ⟨b2, o2 + p, none⟩ = some (.string ⟨t0.toArray⟩) := (hPK.out.bel.cell (p := ⟨b2, o2 + p, none⟩) hb2).trans hcell2
                have hb3 : b2 < wr.heap.size := by omega
                have hd : decide ((p : Int) ≥ old.length) = false := by simp; omega
                have hd2 : decide ((old.length : Int) ≤ p) = false := by simp; omega
                have HT0 := hidden ht0
                by_cases ho : t0 = x3
                · subst ho
                  have HO4 := hidden (hPK.out.own.alloc (opO x1 x2 t0))
                  have hqe : (t0 == t0) = true := by simp
                  have hk23 : x1 = 2 ∨ x1 = 3 := by omega
                  clear ht0 hal h1 h1b h4 h4b
                  rcases hk23 with rfl | rfl
                  · have HD := hidden (show dsl old (xs.take (k + 1)) = some (out ++ [t0], p + 1) by rw [dsl_take HXK.out, hPK.out.st, ds_keep HT0.out])
                    go_wp2_with fail
                    go_quiet (fail)
                    generalize hW : World.drewN _ nq = W5
                    have HB5 := hidden (show Below w.heap.size w W5 from hW ▸ below_drewN HB4.out nq)
                    have HO5 := hidden (show W5.ownsRow w.heap.size 9 1 u6 out.length (out.map S) from hW ▸ owns_later HO4.out (below_drewN (Below.refl _ _) nq))
                    obtain ⟨e1, e2, e3⟩ := three_at (W := W5) (x1 := 2) (x2 := x2) (x3 := t0) (hW ▸ below_drewN (Below.refl _ _) nq)
                    have hws5 := HB5.out.size
                    clear hW c1 c2 c3 hcell3 hcell2
                    go_wp2_with (at_builtin; go_must (refine wpList_append_txt _ (by go_simp) (.tmp 46) (.tmp 49) rfl w.heap.size _ (.slice (some ⟨W5.heap.size, 0, none⟩) 1 1) out [t0] rfl rfl (HO5.out.alloc _) (row_one _ _ _ rfl) (by simp; omega) (by simp; omega) ?_; intro v9 w9 hown9 hadd9))
                    have HK := hidden (show PK w old (xs.take (k + 1)) v9 (out ++ [t0]) (p + 1) w9 from ⟨HD.out, hown9, adds_bel (bel_alloc HB5.out _) (by simp; omega) (HO5.out.alloc (.cells #[.string ⟨t0.toArray⟩] 9)) hadd9⟩)
                    clear hown9 hadd9
                    go_roundw
                    case rel => exact ⟨k + 1, p + 1, out ++ [t0], by omega, by go_num, by go_num, HK.out⟩
                    case measure => simp [intOf]; omega
                  · have HD := hidden (show dsl old (xs.take (k + 1)) = some (out, p + 1) by rw [dsl_take HXK.out, hPK.out.st, ds_del HT0.out])
                    go_wp2_with fail
                    go_quiet (fail)
                    generalize hW : World.drewN _ nq = W5
                    have HB5 := hidden (show Below w.heap.size w W5 from hW ▸ below_drewN HB4.out nq)
                    have HO5 := hidden (show W5.ownsRow w.heap.size 9 1 u6 out.length (out.map S) from hW ▸ owns_later HO4.out (below_drewN (Below.refl _ _) nq))
                    obtain ⟨e1, e2, e3⟩ := three_at (W := W5) (x1 := 3) (x2 := x2) (x3 := t0) (hW ▸ below_drewN (Below.refl _ _) nq)
                    have hws5 := HB5.out.size
                    clear hW c1 c2 c3 hcell3 hcell2
                    have HK := hidden (show PK w old (xs.take (k + 1)) u6 out (p + 1) W5 from ⟨HD.out, HO5.out, HB5.out⟩)
                    go_wp2_with fail
                    go_roundw
                    case rel => exact ⟨k + 1, p + 1, out, by omega, by go_num, by go_num, HK.out⟩
                    case measure => simp [intOf]; omega
                · have hqe : (t0 == x3) = false := by simpa using ho
                  have hqe2 : (t0 != x3) = true := by simpa using ho
                  have HN := hidden (show doo xs old = none from doo_stop HXK.out hPK.out.st (ds_no h1 h4 (by rw [HT0.out]; simpa using ho)))
                  clear ht0
                  go_wp2_with fail
                  go_quiet (fail)
                  go_wp2_with fail
                  go_ret2
                  exact Ans.none HN.out (below_drewN HB4.out nq)
              · have HN := hidden (show doo xs old = none from doo_stop HXK.out hPK.out.st (ds_no h1 h4 (by rw [List.getElem?_eq_none (by omega)]; simp)))
                have hd : decide ((p : Int) ≥ old.length) = true := by simp; omega
                have hd2 : decide ((old.length : Int) ≤ p) = true := by simp; omega
                go_wp2_with fail
                go_quiet (fail)
                go_wp2_with fail
                go_ret2
                exact Ans.none HN.out (below_drewN HB4.out nq)
        · have hke : xs.take k = xs := List.take_of_length_le (by omega)
          rw [hke] at hPK
          have HLZ := hidden (show out.length + (old.drop p).length ≤ 4398046511104 by rw [List.length_drop]; omega)
          have HFZ := hidden (show FitT (out ++ old.drop p) from fun t ht => by
            rcases List.mem_append.1 ht with h | h
            · rcases dsl_mem old xs out p hPK.out.st t h with h | ⟨x, hx, rfl⟩
              · exact HFO.out t h
              · exact HF.out x hx
            · exact HFO.out t (List.mem_of_mem_drop h))
          have hbs := hPK.out.bel.size
          have HRY := hidden (RowAt.later (RowAt.rest2 HY.out rfl hle) hPK.out.bel)
          have hroom := RowAt.room HY.out
          go_wp2_with (at_builtin; go_must (refine wpList_append_txt _ (by go_simp) (.tmp 82) (.tmp 85) rfl w.heap.size _ _ out (old.drop p) rfl rfl hPK.out.own (by have h := HRY.out; simp [Act.eval, go_sem]; exact h) HLZ.out hbs ?_; intro v9 w9 hown9 hadd9))
          all_goals
            have HB9 := hidden (adds_bel hPK.out.bel hbs hPK.out.own hadd9)
            have HO9 := hidden hown9
            clear hadd9 hown9
            cases hwz : wh (out ++ old.drop p) with
            | false =>
              have HN := hidden (show doo xs old = none by
                unfold doo
                rw [if_pos ⟨HRT.out, HWH.out⟩, hPK.out.st]
                simp [hwz])
              have HWZ := hidden hwz
              clear hwz
              refine (refWhole_any _ (out ++ old.drop p) _ (RowAt.of_owns HO9.out) (by rw [List.length_append]; have := HLZ.out; omega) HFZ.out).mono ?_
              rw [HWZ.out]
              rintro e w10 ⟨rfl, hb10⟩
              have HB10 := hidden (HB9.out.trans (hb10.mono HB9.out.size))
              clear hb10
              go_wp2_with fail
              go_ret2
              exact Ans.none HN.out HB10.out
            | true =>
              have HN := hidden (show doo xs old = some (out ++ old.drop p) by
                unfold doo
                rw [if_pos ⟨HRT.out, HWH.out⟩, hPK.out.st]
                simp [hwz])
              have HWZ := hidden hwz
              clear hwz
              refine (refWhole_any _ (out ++ old.drop p) _ (RowAt.of_owns HO9.out) (by rw [List.length_append]; have := HLZ.out; omega) HFZ.out).mono ?_
              rw [HWZ.out]
              rintro e w10 ⟨rfl, hb10⟩
              have HB10 := hidden (HB9.out.trans (hb10.mono HB9.out.size))
              have HO10 := hidden (owns_later HO9.out hb10)
              clear hb10
              go_wp2_with fail
              go_ret2
              exact ⟨_, by rw [HN.out]; rfl, by rw [HN.out]; exact HO10.out, HB10.out⟩

end Go.Proofs.Ytmbalnjobcgpkaa
