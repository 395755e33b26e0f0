
/-
  What the program's apply.taken and apply.done answer at any steps and lines that lie in memory: how many lines a step is about, and what comes of lines by steps; conditions: the lists' and texts' lengths.
-/
import Derived.Test.YtophhgbkcdeidaaLRow
import Derived.Test.YtophhgbkcdeidaaAPlain
namespace Go.Proofs.Ytophhgbkcdeidaa
open Go.RowKit Go.Proofs.Ytophhgbkcdeidaa.Ln Go.Proofs.Ytophhgbkcdeidaa.Ol

/-- how many lines a step is about, and whether they are there -/
def tkn (x : Oq) (ls : List Tx) : Int × Bool := if x.1 = 1 then (x.2.1, decide (x.2.1 ≤ ls.length)) else (1, decide (ls[0]? = some x.2.2))

theorem ret_two {a b c d : Value} (h1 : a = c) (h2 : b = d) : Ending.returned (.tuple #[a, b]) = .returned (.tuple #[c, d]) := by rw [h1, h2]
theorem val_int {a b : Int} (h : a = b) : Value.int .i64 a = .int .i64 b := by rw [h]
theorem val_bool {a b : Bool} (h : a = b) : Value.bool a = .bool b := by rw [h]
theorem beq_tx (t x : Tx) : (t == x) = decide (t = x) := by rw [Bool.eq_iff_iff]; simp

set_option maxHeartbeats 2000000 in
theorem taken_any (x1 x2 : Int) (x3 : Tx) (v : Value) (ls : List Tx) (w : World) (hr : RowAt w v ls) (hl : ls.length ≤ 8796093022208) :
    Calls Try.prog 42 #[.agg #[.int .i64 x1, .int .i64 x2, .string ⟨x3.toArray⟩], v] w fun e w' => e = .returned (.tuple #[.int .i64 (tkn (x1, x2, x3) ls).1, .bool (tkn (x1, x2, x3) ls).2]) ∧ Below w.heap.size w w' := by
  by_cases h1 : x1 = 1
  · subst h1
    obtain ⟨ao, cap, rfl⟩ := hr.shape
    clear hr
    have HT := hidden (show tkn (1, x2, x3) ls = (x2, decide (x2 ≤ ls.length)) by simp [tkn])
    go_enter Try.func42, Try.ntmps42
    go_wp2_with fail
    go_quiet (fail)
    go_wp2_with fail
    go_ret2
    exact ⟨ret_two (val_int (by rw [HT.out])) (val_bool (by rw [HT.out])), below_drewN (bel_alloc (Below.refl _ _) _) nq⟩
  · have h1b : (x1 == 1) = false := by simpa using h1
    by_cases hne : ls = []
    · subst hne
      obtain ⟨ao, cap, rfl⟩ := hr.shape
      clear hr
      have HT := hidden (show tkn (x1, x2, x3) [] = (1, false) by simp [tkn, h1])
      go_enter Try.func42, Try.ntmps42
      go_wp2_with fail
      go_quiet (fail)
      go_wp2_with fail
      go_ret2
      exact ⟨ret_two (val_int (by rw [HT.out])) (val_bool (by rw [HT.out])), below_drewN (bel_alloc (Below.refl _ _) _) nq⟩
    · obtain ⟨b, o, cap, rfl, hcap, hb, hc⟩ := hr.cells hne
      obtain ⟨t, ht⟩ : ∃ t, ls[0]? = some t := ⟨ls[0]'(List.length_pos_iff.2 hne), List.getElem?_eq_getElem _⟩
      have hcell : w.cell? ⟨b, o, none⟩ = some (.string ⟨t.toArray⟩) := hc 0 t ht
      have hpos : 0 < ls.length := List.length_pos_iff.2 hne
      have HT := hidden (show tkn (x1, x2, x3) ls = (1, decide (t = x3)) by simp [tkn, h1, ht])
      have hd : decide ((ls.length : Int) > 0) = true := by simp; omega
      have hd2 : decide (0 < (ls.length : Int)) = true := by simp; omega
      have hd3 : (0 : Int) < ls.length := by omega
      clear hr hc ht hne
      go_enter Try.func42, Try.ntmps42
      go_wp2_with fail
      go_quiet (fail)
      go_wp2_with fail
      go_ret2
      exact ⟨ret_two (val_int (by rw [HT.out])) (val_bool (by rw [HT.out]; exact beq_tx t x3)), below_drewN (bel_alloc (Below.refl _ _) _) nq⟩

/-- steps that were handed in, whatever they are -/
theorem OpsAt.open_ {w : World} {v : Value} {xs : List Oq} (h : OpsAt w v xs) : ∃ ao cap, v = .slice ao xs.length cap ∧ ∀ (j : Nat) x, xs[j]? = some x → ∃ b o, ao = some ⟨b, o, none⟩ ∧ xs.length ≤ cap ∧ b < w.heap.size ∧ (w.cell? ⟨b, o + j * 3, none⟩ = some (Z x.1) ∧ w.cell? ⟨b, o + j * 3 + 1, none⟩ = some (Z x.2.1) ∧ w.cell? ⟨b, o + j * 3 + 2, none⟩ = some (S x.2.2)) := by
  rcases h with ⟨rfl, ao, cap, rfl, _⟩ | ⟨b, o, cap, rfl, h1, h2, h3⟩
  · exact ⟨ao, cap, rfl, fun j x hx => by simp at hx⟩
  · exact ⟨_, cap, rfl, fun j x hx => ⟨b, o, rfl, h1, h2, h3 j x hx⟩⟩
/-- where the doing stands -/
structure DK (w : World) (old : List Tx) (l : List Oq) (q u : Value) (out : List Tx) (p : Nat) (W : World) : Prop where
  st : dsl old l = some (out, p)
  left : RowAt w u (old.drop p)
  own : W.ownsRow w.heap.size 9 1 q out.length (out.map S)
  bel : Below w.heap.size w W
/-- an answer: what came, and whether it could be done -/
def Ans (w : World) (r : Option (List Tx)) (e : Ending) (w' : World) : Prop := ∃ q, e = .returned (.tuple #[q, .bool r.isSome]) ∧ w'.ownsRow w.heap.size 9 1 q (r.getD []).length ((r.getD []).map S) ∧ Below w.heap.size w w'
theorem Ans.none {w w' : World} {r : Option (List Tx)} (h : r = none) (hb : Below w.heap.size w w') : Ans w r (.returned (.tuple #[.slice none 0 0, .bool false])) w' := by
  subst h
  exact ⟨_, rfl, World.ownsRow_nil _ _ _ _, hb⟩
theorem three_at {w W : World} {x1 x2 : Int} {x3 : Tx} (hb : Below (w.heap.size + 1) (w.alloc (opO x1 x2 x3)) W) : W.cell? ⟨w.heap.size, 0, none⟩ = some (.int .i64 x1) ∧ W.cell? ⟨w.heap.size, 1, none⟩ = some (.int .i64 x2) ∧ W.cell? ⟨w.heap.size, 2, none⟩ = some (.string ⟨x3.toArray⟩) :=
  ⟨(hb.cell (p := ⟨w.heap.size, 0, none⟩) (by simp)).trans (by simp), (hb.cell (p := ⟨w.heap.size, 1, none⟩) (by simp)).trans (by simp), (hb.cell (p := ⟨w.heap.size, 2, none⟩) (by simp)).trans (by simp)⟩

set_option maxRecDepth 3000 in
set_option maxHeartbeats 8000000 in
theorem done_any (v : Value) (xs : List Oq) (u : Value) (old : List Tx) (w : World) (hX : OpsAt w v xs) (hY : RowAt w u old) (hl : xs.length + old.length ≤ 4398046511104) (hf : Fit xs) (hfo : FitT old) :
    Calls Try.prog 25 #[v, u] w fun e w' => Ans w (doo xs old) e w' := by
  have HF := hidden hf
  have HFO := hidden hfo
  have HX := hidden hX
  have HY := hidden hY
  obtain ⟨ao, cap, rfl, hc⟩ := hX.open_
  have HC := hidden hc
  clear hX hY hf hfo hc
  cases hrt : right xs with
  | false =>
    have HN := hidden (show doo xs old = none by unfold doo; rw [if_neg (by simp [hrt])])
    have HRT := hidden hrt
    clear hrt
    obtain ⟨bo, cap2, rfl⟩ := HY.out.shape
    go_enter Try.func25, Try.ntmps25
    go_wp2_with fail
    refine (oright_any _ xs w HX.out (by omega) HF.out).mono ?_
    rw [HRT.out]
    rintro e w2 ⟨rfl, hb2⟩
    have HB2 := hidden hb2
    clear hb2
    go_wp2_with fail
    go_ret2
    exact Ans.none HN.out HB2.out
  | true =>
    have HRT := hidden hrt
    have HAL := hidden (right_al0 hrt)
    clear hrt
    cases hwh : wh old with
    | false =>
      have HN := hidden (show doo xs old = none by unfold doo; rw [if_neg (by simp [hwh])])
      have HWH := hidden hwh
      clear hwh
      obtain ⟨bo, cap2, rfl⟩ := HY.out.shape
      go_enter Try.func25, Try.ntmps25
      go_wp2_with fail
      refine (oright_any _ xs w HX.out (by omega) HF.out).mono ?_
      rw [HRT.out]
      rintro e w2 ⟨rfl, hb2⟩
      have HB2 := hidden hb2
      have HY2 := hidden (HY.out.later hb2)
      clear hb2
      go_wp2_with fail
      refine (whole_any _ old w2 HY2.out (by omega) HFO.out).mono ?_
      rw [HWH.out]
      rintro e w3 ⟨rfl, hb3⟩
      have HB3 := hidden (HB2.out.trans (hb3.mono HB2.out.size))
      clear hb3
      go_wp2_with fail
      go_ret2
      exact Ans.none HN.out HB3.out
    | true =>
      have HWH := hidden hwh
      clear hwh
      obtain ⟨bo, cap2, rfl⟩ := HY.out.shape
      go_enter Try.func25, Try.ntmps25
      go_wp2_with fail
      refine (oright_any _ xs w HX.out (by omega) HF.out).mono ?_
      rw [HRT.out]
      rintro e w2 ⟨rfl, hb2⟩
      have HB2 := hidden hb2
      have HY2 := hidden (HY.out.later hb2)
      clear hb2
      go_wp2_with fail
      refine (whole_any _ old w2 HY2.out (by omega) HFO.out).mono ?_
      rw [HWH.out]
      rintro e w3 ⟨rfl, hb3⟩
      have HB3 := hidden (HB2.out.trans (hb3.mono HB2.out.size))
      clear hb3
      go_wp2_with fail
      go_loopw [6, 7, 23] (fun q u i wr => ∃ (k p : Nat) (out : List Tx), k ≤ xs.length ∧ i = .int .i64 k ∧ Hid (DK w old (xs.take k) q u out p wr)) (fun _ _ i _ => xs.length - (intOf i).toNat)
      case atStart => exact ⟨0, 0, [], Nat.zero_le _, rfl, ⟨rfl, HY.out, World.ownsRow_nil _ _ _ _, HB3.out⟩⟩
      case round =>
        obtain ⟨k, p, out, hk, rfl, hDK⟩ := hrel
        have hdn := dn old (xs.take k) (fun y hy => HAL.out y (List.mem_of_mem_take hy)) out p hDK.out.st
        have hlen := hdn.len
        have hle := hdn.le
        rw [List.length_take, Nat.min_eq_left hk] at hlen
        clear hdn
        have hws := hDK.out.bel.size
        by_cases hlt : k < xs.length
        · obtain ⟨x1, x2, x3, hx⟩ := op_some hlt
          obtain ⟨b, o, hao, hcap, hb, hcc⟩ := HC.out k _ hx
          subst hao
          obtain ⟨c1, c2, c3⟩ := three_later hb hDK.out.bel hcc
          simp only at c1 c2 c3
          have hal := HAL.out _ (List.mem_of_getElem? hx)
          simp only [al0] at hal
          have HXK := hidden hx
          clear hx hcc
          by_cases h4 : x1 = 4
          · subst h4
            have HD := hidden (show dsl old (xs.take (k + 1)) = some (out ++ [x3], p) by rw [dsl_take HXK.out, hDK.out.st, ds_ins])
            go_wp2_with (at_builtin; go_must (refine wpList_append_txt _ (by go_simp) (.tmp 30) (.tmp 33) rfl w.heap.size _ (.slice (some ⟨wr.heap.size + 1, 0, none⟩) 1 1) out [x3] rfl rfl ((hDK.out.own.alloc _).alloc _) (row_one _ _ _ (by simp)) (by simp; omega) (by simp; omega) ?_; intro v9 w9 hown9 hadd9))
            have HK := hidden (show DK w old (xs.take (k + 1)) v9 u7 (out ++ [x3]) p w9 from ⟨HD.out, hDK.out.left, hown9, adds_bel (bel_alloc (bel_alloc hDK.out.bel _) _) (by simp; omega) ((hDK.out.own.alloc (opO 4 x2 x3)).alloc (.cells #[.string ⟨x3.toArray⟩] 9)) hadd9⟩)
            clear hown9 hadd9
            go_roundw
            case rel => exact ⟨k + 1, p, out ++ [x3], by omega, by go_num, HK.out⟩
            case measure => simp [intOf]; omega
          · have h4b : (x1 == 4) = false := by simpa using h4
            by_cases h1 : x1 = 1
            · subst h1
              have hx2 : 1 ≤ x2 := by omega
              by_cases hfit : (p : Int) + x2 ≤ old.length
              · obtain ⟨n, rfl⟩ : ∃ n : Nat, x2 = n := ⟨x2.toNat, by omega⟩
                have hpn : p + n ≤ old.length := by omega
                have hn1 : 1 ≤ n := by omega
                have HD := hidden (show dsl old (xs.take (k + 1)) = some (out ++ (old.drop p).take n, p + n) by rw [dsl_take HXK.out, hDK.out.st, ds_skip n rfl hpn])
                have hL := hDK.out.left
                have hll : (old.drop p).length = old.length - p := List.length_drop
                obtain ⟨N, hN⟩ : ∃ N, old.length - p = N := ⟨_, rfl⟩
                rw [hN] at hll
                have hnN : n ≤ N := by omega
                have hNb : N ≤ 4398046511104 := by omega
                obtain ⟨b2, o2, cap3, hu, hcap3, hb2, _⟩ := hL.cells (by intro h; rw [h] at hll; simp at hll; omega)
                rw [hll] at hu hcap3
                subst hu
                have HL := hidden hL
                have HT := hidden (show tkn (1, (n : Int), x3) (old.drop p) = ((n : Int), true) by simp only [tkn, if_true, hll]; simp; omega)
                have HH := hidden (RowAt.head (k := n) hL hll.symm (by omega))
                have HR := hidden (show RowAt w (.slice (if cap3 = n then some ⟨b2, o2, none⟩ else some ⟨b2, o2 + n, none⟩) (N - n) (cap3 - n)) (old.drop (p + n)) by
                  have := RowAt.rest (k := n) hL hll.symm (by omega)
                  rw [List.drop_drop] at this
                  by_cases hcn : cap3 = n
                  · have e0 : N - n = 0 := by omega
                    rw [if_pos hcn, e0, List.drop_of_length_le (by omega)]; exact RowAt.nil _ _ _
                  · rw [if_neg hcn]; exact this)
                have HTL := hidden (show ((old.drop p).take n).length = n by rw [List.length_take, hll]; omega)
                have hnN2 : n ≤ cap3 := by omega
                have HLL := hidden hll
                clear hll hN
                clear hL hfit h4 h4b hal hx2
                go_wp2_with fail
                refine (taken_any 1 n x3 _ (old.drop p) _ (HL.out.later ((bel_alloc hDK.out.bel _))) (by rw [HLL.out]; omega)).mono ?_
                rw [HT.out]
                rintro e w4 ⟨rfl, hb4⟩
                have hb4' : Below (wr.heap.size + 1) (wr.alloc (opO 1 n x3)) w4 := hb4.mono (by simp)
                obtain ⟨e1, e2, e3⟩ := three_at hb4'
                have hws4 := hb4.size
                have HB4 := hidden (show Below w.heap.size w w4 from (bel_alloc hDK.out.bel _).trans (hb4.mono (by simp; omega)))
                have HO4 := hidden (owns_later (hDK.out.own.alloc (opO 1 n x3)) hb4)
                simp at hws4
                clear hb4 hb4' c1 c2 c3
                go_wp2_with (at_builtin; go_must (refine wpList_append_txt _ (by go_simp) (.tmp 46) (.tmp 49) rfl w.heap.size _ _ out ((old.drop p).take n) rfl rfl HO4.out (HH.out.later HB4.out) (by have := HTL.out; omega) (by omega) ?_; intro v9 w9 hown9 hadd9))
                have HK := hidden (show DK w old (xs.take (k + 1)) v9 _ (out ++ (old.drop p).take n) (p + n) w9 from ⟨HD.out, HR.out, hown9, adds_bel HB4.out (by omega) HO4.out hadd9⟩)
                clear hown9 hadd9
                go_roundw
                case rel => exact ⟨k + 1, p + n, _, by omega, by go_num, HK.out⟩
                case measure => simp [intOf]; omega
              · have HN := hidden (show doo xs old = none from doo_stop HXK.out hDK.out.st (ds_skip_no hfit))
                have HT := hidden (show tkn (1, x2, x3) (old.drop p) = (x2, false) by simp only [tkn, if_true, List.length_drop]; simp; omega)
                go_wp2_with fail
                refine (taken_any 1 x2 x3 _ (old.drop p) _ (hDK.out.left.later ((bel_alloc hDK.out.bel _))) (by rw [List.length_drop]; omega)).mono ?_
                rw [HT.out]
                rintro e w4 ⟨rfl, hb4⟩
                have HB4 := hidden (show Below w.heap.size w w4 from (bel_alloc hDK.out.bel _).trans (hb4.mono (by simp; omega)))
                clear hb4
                go_wp2_with fail
                go_ret2
                exact Ans.none HN.out HB4.out
            · have h1b : (x1 == 1) = false := by simpa using h1
              by_cases ho : old[p]? = some x3
              · have hk23 : x1 = 2 ∨ x1 = 3 := by omega
                rcases hk23 with rfl | rfl
                · have HD := hidden (show dsl old (xs.take (k + 1)) = some (out ++ [x3], p + 1) by rw [dsl_take HXK.out, hDK.out.st, ds_keep ho])
                  have hL := hDK.out.left
                  have hll : (old.drop p).length = old.length - p := List.length_drop
                  have hpl := (List.getElem?_eq_some_iff.1 ho).1
                  obtain ⟨N, hN⟩ : ∃ N, old.length - p = N := ⟨_, rfl⟩
                  rw [hN] at hll
                  have hnN : 1 ≤ N := by omega
                  have hNb : N ≤ 4398046511104 := by omega
                  obtain ⟨b2, o2, cap3, hu, hcap3, hb2, _⟩ := hL.cells (by intro h; rw [h] at hll; simp at hll; omega)
                  rw [hll] at hu hcap3
                  subst hu
                  have HL := hidden hL
                  have HT := hidden (show tkn (2, x2, x3) (old.drop p) = (1, true) by simp [tkn, ho])
                  have HH := hidden (show RowAt w (.slice (some ⟨b2, o2, none⟩) 1 cap3) [x3] by
                    have := RowAt.head (k := 1) hL hll.symm hnN
                    rw [show (old.drop p).take 1 = [x3] by rw [List.take_one, List.head?_drop, ho]; rfl] at this; exact this)
                  have HR := hidden (show RowAt w (.slice (if cap3 = 1 then some ⟨b2, o2, none⟩ else some ⟨b2, o2 + 1, none⟩) (N - 1) (cap3 - 1)) (old.drop (p + 1)) by
                    have := RowAt.rest (k := 1) hL hll.symm hnN
                    rw [List.drop_drop] at this
                    by_cases hcn : cap3 = 1
                    · have e0 : N - 1 = 0 := by omega
                      rw [if_pos hcn, e0, List.drop_of_length_le (by omega)]; exact RowAt.nil _ _ _
                    · rw [if_neg hcn]; exact this)
                  have hnN2 : 1 ≤ cap3 := by omega
                  have HLL := hidden hll
                  clear hll hN ho hL h4 h4b hal h1 h1b
                  go_wp2_with fail
                  refine (taken_any 2 x2 x3 _ (old.drop p) _ (HL.out.later ((bel_alloc hDK.out.bel _))) (by rw [HLL.out]; omega)).mono ?_
                  rw [HT.out]
                  rintro e w4 ⟨rfl, hb4⟩
                  have hb4' : Below (wr.heap.size + 1) (wr.alloc (opO 2 x2 x3)) w4 := hb4.mono (by simp)
                  obtain ⟨e1, e2, e3⟩ := three_at hb4'
                  have hws4 := hb4.size
                  have HB4 := hidden (show Below w.heap.size w w4 from (bel_alloc hDK.out.bel _).trans (hb4.mono (by simp; omega)))
                  have HO4 := hidden (owns_later (hDK.out.own.alloc (opO 2 x2 x3)) hb4)
                  simp at hws4
                  clear hb4 hb4' c1 c2 c3
                  go_wp2_with (at_builtin; go_must (refine wpList_append_txt _ (by go_simp) (.tmp 46) (.tmp 49) rfl w.heap.size _ _ out [x3] rfl rfl HO4.out (HH.out.later HB4.out) (by simp; omega) (by omega) ?_; intro v9 w9 hown9 hadd9))
                  have HK := hidden (show DK w old (xs.take (k + 1)) v9 _ (out ++ [x3]) (p + 1) w9 from ⟨HD.out, HR.out, hown9, adds_bel HB4.out (by omega) HO4.out hadd9⟩)
                  clear hown9 hadd9
                  go_roundw
                  case rel => exact ⟨k + 1, p + 1, _, by omega, by go_num, HK.out⟩
                  case measure => simp [intOf]; omega
                · have HD := hidden (show dsl old (xs.take (k + 1)) = some (out, p + 1) by rw [dsl_take HXK.out, hDK.out.st, ds_del ho])
                  have hL := hDK.out.left
                  have hll : (old.drop p).length = old.length - p := List.length_drop
                  have hpl := (List.getElem?_eq_some_iff.1 ho).1
                  obtain ⟨N, hN⟩ : ∃ N, old.length - p = N := ⟨_, rfl⟩
                  rw [hN] at hll
                  have hnN : 1 ≤ N := by omega
                  have hNb : N ≤ 4398046511104 := by omega
                  obtain ⟨b2, o2, cap3, hu, hcap3, hb2, _⟩ := hL.cells (by intro h; rw [h] at hll; simp at hll; omega)
                  rw [hll] at hu hcap3
                  subst hu
                  have HL := hidden hL
                  have HT := hidden (show tkn (3, x2, x3) (old.drop p) = (1, true) by simp [tkn, ho])
                  have HH := hidden (show RowAt w (.slice (some ⟨b2, o2, none⟩) 1 cap3) [x3] by
                    have := RowAt.head (k := 1) hL hll.symm hnN
                    rw [show (old.drop p).take 1 = [x3] by rw [List.take_one, List.head?_drop, ho]; rfl] at this; exact this)
                  have HR := hidden (show RowAt w (.slice (if cap3 = 1 then some ⟨b2, o2, none⟩ else some ⟨b2, o2 + 1, none⟩) (N - 1) (cap3 - 1)) (old.drop (p + 1)) by
                    have := RowAt.rest (k := 1) hL hll.symm hnN
                    rw [List.drop_drop] at this
                    by_cases hcn : cap3 = 1
                    · have e0 : N - 1 = 0 := by omega
                      rw [if_pos hcn, e0, List.drop_of_length_le (by omega)]; exact RowAt.nil _ _ _
                    · rw [if_neg hcn]; exact this)
                  have hnN2 : 1 ≤ cap3 := by omega
                  have HLL := hidden hll
                  clear hll hN ho hL h4 h4b hal h1 h1b
                  go_wp2_with fail
                  refine (taken_any 3 x2 x3 _ (old.drop p) _ (HL.out.later ((bel_alloc hDK.out.bel _))) (by rw [HLL.out]; omega)).mono ?_
                  rw [HT.out]
                  rintro e w4 ⟨rfl, hb4⟩
                  have hb4' : Below (wr.heap.size + 1) (wr.alloc (opO 3 x2 x3)) w4 := hb4.mono (by simp)
                  obtain ⟨e1, e2, e3⟩ := three_at hb4'
                  have hws4 := hb4.size
                  have HB4 := hidden (show Below w.heap.size w w4 from (bel_alloc hDK.out.bel _).trans (hb4.mono (by simp; omega)))
                  have HO4 := hidden (owns_later (hDK.out.own.alloc (opO 3 x2 x3)) hb4)
                  simp at hws4
                  clear hb4 hb4' c1 c2 c3
                  have HK := hidden (show DK w old (xs.take (k + 1)) _ _ out (p + 1) w4 from ⟨HD.out, HR.out, HO4.out, HB4.out⟩)
                  go_wp2_with fail
                  go_roundw
                  case rel => exact ⟨k + 1, p + 1, _, by omega, by go_num, HK.out⟩
                  case measure => simp [intOf]; omega
              · have HN := hidden (show doo xs old = none from doo_stop HXK.out hDK.out.st (ds_no h1 h4 ho))
                have HT := hidden (show tkn (x1, x2, x3) (old.drop p) = (1, false) by simp [tkn, h1, ho])
                have HL := hidden (show (old.drop p).length ≤ 4398046511104 by rw [List.length_drop]; omega)
                clear ho
                go_wp2_with fail
                refine (taken_any x1 x2 x3 _ (old.drop p) _ (hDK.out.left.later ((bel_alloc hDK.out.bel _))) (by have := HL.out; omega)).mono ?_
                rw [HT.out]
                rintro e w4 ⟨rfl, hb4⟩
                have HB4 := hidden (show Below w.heap.size w w4 from (bel_alloc hDK.out.bel _).trans (hb4.mono (by simp; omega)))
                clear hb4
                go_wp2_with fail
                go_ret2
                exact Ans.none HN.out HB4.out
        · have hke : xs.take k = xs := List.take_of_length_le (by omega)
          rw [hke] at hDK
          obtain ⟨ao3, N, cap3, rfl⟩ : ∃ ao N cap, u7 = .slice ao N cap := by
            obtain ⟨ao3, cap3, e⟩ := hDK.out.left.shape
            exact ⟨_, _, _, e⟩
          have HRR := hidden (hDK.out.left.later hDK.out.bel)
          have HLZ := hidden (show out.length + (old.drop p).length ≤ 4398046511104 by rw [List.length_drop]; omega)
          have HFZ := hidden (show FitT (out ++ old.drop p) from fun t ht => by
            rcases List.mem_append.1 ht with h | h
            · rcases dsl_mem old xs out p hDK.out.st t h with h | ⟨x, hx, rfl⟩
              · exact HFO.out t h
              · exact HF.out x hx
            · exact HFO.out t (List.mem_of_mem_drop h))
          have hbs := hDK.out.bel.size
          go_wp2_with (at_builtin; go_must (refine wpList_append_txt _ (by go_simp) (.tmp 55) (.tmp 56) rfl w.heap.size _ _ out (old.drop p) rfl rfl hDK.out.own HRR.out HLZ.out hbs ?_; intro v9 w9 hown9 hadd9))
          have HB9 := hidden (adds_bel hDK.out.bel hbs hDK.out.own hadd9)
          have HO9 := hidden hown9
          clear hadd9 hown9
          cases hwz : wh (out ++ old.drop p) with
          | false =>
            have HN := hidden (show doo xs old = none by
              unfold doo
              rw [if_pos ⟨HRT.out, HWH.out⟩, hDK.out.st]
              simp [hwz])
            have HWZ := hidden hwz
            clear hwz
            refine (whole_any _ (out ++ old.drop p) _ (RowAt.of_owns HO9.out) (by rw [List.length_append]; have := HLZ.out; omega) HFZ.out).mono ?_
            rw [HWZ.out]
            rintro e w10 ⟨rfl, hb10⟩
            have HB10 := hidden (HB9.out.trans (hb10.mono HB9.out.size))
            clear hb10
            go_wp2_with fail
            go_ret2
            exact Ans.none HN.out HB10.out
          | true =>
            have HN := hidden (show doo xs old = some (out ++ old.drop p) by
              unfold doo
              rw [if_pos ⟨HRT.out, HWH.out⟩, hDK.out.st]
              simp [hwz])
            have HWZ := hidden hwz
            clear hwz
            refine (whole_any _ (out ++ old.drop p) _ (RowAt.of_owns HO9.out) (by rw [List.length_append]; have := HLZ.out; omega) HFZ.out).mono ?_
            rw [HWZ.out]
            rintro e w10 ⟨rfl, hb10⟩
            have HB10 := hidden (HB9.out.trans (hb10.mono HB9.out.size))
            have HO10 := hidden (owns_later HO9.out hb10)
            clear hb10
            go_wp2_with fail
            go_ret2
            exact ⟨_, by rw [HN.out]; rfl, by rw [HN.out]; exact HO10.out, HB10.out⟩

end Go.Proofs.Ytophhgbkcdeidaa
