/-
  The law NumsRanges, called with any two lists of ints that lie in memory and any int, returns true, and nothing of what was in memory has turned; condition: the library's own variables hold what their text lays.
-/
import Derived.Test.YtdlmddeiopdioaaDoorJoin
import Derived.Test.YtdlmddeiopdioaaDoorArg
import Derived.Deep.Cut
namespace Go.Proofs.YtdlmddeiopdioaaDoor
open Go.RowKit Go.Proofs.YtdlmddeiopdioaaDoor.Nm

/-- a variable that holds a range -/
structure Var (w : World) (b : Nat) (f t : Int) : Prop where
  c0 : w.cell? ⟨b, 0, none⟩ = some (.int .i64 f)
  c1 : w.cell? ⟨b, 1, none⟩ = some (.int .i64 t)
  fz : w.frozen? ⟨b, 1, none⟩ = false
  lt : b < w.heap.size
theorem Var.on {w w' : World} {b : Nat} {f t : Int} (h : Var w b f t) (hb : Below w.heap.size w w') : Var w' b f t :=
  ⟨(hb.cell (p := ⟨b, 0, none⟩) h.lt).trans h.c0, (hb.cell (p := ⟨b, 1, none⟩) h.lt).trans h.c1, (hb.frozen (p := ⟨b, 1, none⟩) h.lt).trans h.fz, Nat.lt_of_lt_of_le h.lt hb.size⟩
theorem Var.new (w : World) (f t : Int) : Var (w.alloc (.cells #[.int .i64 f, .int .i64 t] 39)) w.heap.size f t :=
  ⟨by rw [World.cell?_alloc_new]; rfl, by rw [World.cell?_alloc_new]; rfl, World.frozen?_alloc_new _ _ _ _, by simp⟩
theorem Var.set {w : World} {b : Nat} {f t : Int} (h : Var w b f t) (u : Int) : Var (w.setCell ⟨b, 1, none⟩ (.int .i64 u)).drew b f u := by
  refine ⟨?_, ?_, ?_, ?_⟩
  · show (w.setCell ⟨b, 1, none⟩ (.int .i64 u)).cell? ⟨b, 0, none⟩ = _
    rw [World.cell?_setCell_other _ _ _ _ (by simp)]; exact h.c0
  · show (w.setCell ⟨b, 1, none⟩ (.int .i64 u)).cell? ⟨b, 1, none⟩ = _
    exact World.cell?_setCell_same _ _ _ h.c1
  · show (w.setCell ⟨b, 1, none⟩ (.int .i64 u)).frozen? ⟨b, 1, none⟩ = _
    rw [World.frozen?_setCell]; exact h.fz
  · show b < (w.setCell ⟨b, 1, none⟩ (.int .i64 u)).heap.size
    simp [World.setCell]; exact h.lt
theorem Var.grown {w w' : World} {b : Nat} {f t : Int} {row : Option Nat} (h : Var w b f t) (hg : w.grownBy w' row) (hne : ∀ g, row = some g → g < b) : Var w' b f t := by
  have hb : w'.heap[b]? = w.heap[b]? := hg.block b h.lt (fun e => by have := hne b e.symm; omega)
  exact ⟨(World.cell?_of_block (w := w) (a := ⟨b, 0, none⟩) hb).trans h.c0, (World.cell?_of_block (w := w) (a := ⟨b, 1, none⟩) hb).trans h.c1, (World.frozen?_of_block (w := w) (a := ⟨b, 1, none⟩) hb).trans h.fz, Nat.lt_of_lt_of_le h.lt hg.size⟩

theorem text_one (u : Nat) : (⟨(Lib.decDigits u).toArray⟩ : ByteArray) ++ ⟨#[45]⟩ = ⟨(partText ((u : Int), -1)).toArray⟩ := by
  rw [partText, if_neg (show ¬ ((-1 : Int) = (u : Int)) by omega), if_pos (show ((-1 : Int) < 0) by decide)]
  exact app_text _ [45]
theorem text_comma (T X : List UInt8) : (⟨T.toArray⟩ : ByteArray) ++ ⟨#[44]⟩ ++ ⟨X.toArray⟩ = ⟨(T ++ [44] ++ X).toArray⟩ := by
  rw [show (⟨T.toArray⟩ : ByteArray) ++ ⟨#[44]⟩ = ⟨(T ++ [44]).toArray⟩ from app_text T [44], app_text]

theorem textOf_next {rs : List (Int × Int)} (r : Int × Int) (h : rs ≠ []) : textOf rs ++ [44] ++ partText r = textOf (rs ++ [r]) := by rw [textOf_snoc, if_neg h]
theorem textOf_first {rs : List (Int × Int)} (r : Int × Int) (h : rs = []) : textOf rs ++ partText r = textOf (rs ++ [r]) := by rw [textOf_snoc, if_pos h, h]; rfl
theorem good_snoc {rs : List (Int × Int)} {r : Int × Int} (h : ∀ x, x ∈ rs → Good x) (hr : Good r) : ∀ x, x ∈ rs ++ [r] → Good x := by
  intro x hx
  rcases List.mem_append.1 hx with hx | hx
  · exact h x hx
  · simp at hx; rw [hx]; exact hr
theorem text_two (u m : Nat) (h : u < m) : (⟨(Lib.decDigits u).toArray⟩ : ByteArray) ++ ⟨#[45]⟩ ++ ⟨(Lib.decDigits m).toArray⟩ = ⟨(partText ((u : Int), (m : Int))).toArray⟩ := by
  rw [partText, if_neg (show ¬ ((m : Int) = (u : Int)) by omega), if_neg (show ¬ ((m : Int) < 0) by omega), show (⟨(Lib.decDigits u).toArray⟩ : ByteArray) ++ ⟨#[45]⟩ = ⟨(Lib.decDigits u ++ [45]).toArray⟩ from app_text _ [45], app_text]
  rfl
theorem text_same (u : Nat) : (⟨(Lib.decDigits u).toArray⟩ : ByteArray) = ⟨(partText ((u : Int), (u : Int))).toArray⟩ := by
  rw [partText, if_pos rfl]; rfl

theorem put_at {w1 W : World} (he : Env w1) (hb : Below w1.heap.size w1 W) (u : Nat) (h1 : u ≤ 9223372036854775807) :
    Calls Tryd.prog 14 #[.int .i64 u] W fun e w' => e = .returned (.string ⟨(Lib.decDigits u).toArray⟩) ∧ Below W.heap.size W w' := by
  refine (put_any u W (he.on hb) (by omega) (by omega)).mono ?_
  rintro e w' ⟨rfl, hb⟩
  exact ⟨by rw [itoa_pos]; rfl, hb⟩

set_option maxRecDepth 3000 in
set_option maxHeartbeats 1000000 in
theorem numsRanges_in (v u : Value) (xs ys : List Int) (n : Int) (w : World) (he : Env w) (hr : IntsAt w v xs) (hq : IntsAt w u ys) (h1 : 1 ≤ xs.length) (h2 : xs.length ≤ 10) (h3 : xs.length ≤ ys.length) :
    Calls Tryd.prog 5 #[v, u, .int .i64 n] w fun e w' => e = .returned (.bool true) ∧ Below w.heap.size w w' := by
  have HE := hidden he
  clear he
  obtain ⟨i0, hi, hz0, hz1, hz2⟩ := info_parts Tryd.info39
  obtain ⟨b, o, cap, rfl, hcap, hb, hcell⟩ := hr.cells (by intro h; simp [h] at h1)
  obtain ⟨b', o', cap', rfl, hcap', hb', hcell'⟩ := hq.cells (by intro h; simp [h] at h3; simp [h3] at h1)
  have HC := hidden hcell
  have HC' := hidden hcell'
  clear hr hcell hq hcell'
  have hd1 : decide ((xs.length : Int) < 1) = false := by simp; omega
  have hd2 : decide ((10 : Int) < (xs.length : Int)) = false := by simp; omega
  have hd3 : decide ((ys.length : Int) < (xs.length : Int)) = false := by simp; omega
  have hd4 : decide (ys.length < xs.length) = false := by simp; omega
  go_enter Tryd.func5, Tryd.ntmps5
  go_wp2_with fail
  refine (alive_any _ HE.out).mono ?_
  rintro e w1 ⟨rfl, hb1⟩
  have HB1 := hidden hb1
  have HE1 := hidden (HE.out.on hb1)
  clear hb1
  go_wp2_with fail
  go_loopw [8, 9, 10, 11] (fun s v z i wr => ∃ (k : Nat) (rs : List (Int × Int)) (bb : Bool), i = .int .i64 k ∧ k ≤ xs.length ∧ s = .string ⟨(textOf rs).toArray⟩ ∧ z = .bool bb ∧ wr.ownsRow w1.heap.size 39 2 v rs.length (cellsR rs) ∧ Hid (Below w1.heap.size w1 wr) ∧ Hid (rs.length = k ∧ (∀ r, r ∈ rs → Good r) ∧ bb = rs.any fun r => inOne r n))
    (fun _ _ _ i _ => xs.length - (intOf i).toNat)
  case atStart => exact ⟨0, [], false, rfl, by omega, rfl, rfl, World.ownsRow_nil _ _ _ _, Below.refl _ _, rfl, (fun r hr => by cases hr), rfl⟩
  case round =>
    obtain ⟨k, rs, bb, rfl, hk, rfl, rfl, hown, hbl, hgd⟩ := hrel
    by_cases hlt : k < xs.length
    · obtain ⟨x, hx⟩ : ∃ x, xs[k]? = some x := ⟨xs[k], List.getElem?_eq_getElem hlt⟩
      obtain ⟨y, hy⟩ : ∃ y, ys[k]? = some y := ⟨ys[k]'(by omega), List.getElem?_eq_getElem _⟩
      have hlt2 : k < ys.length := by omega
      have hbw : Below w.heap.size w wr := HB1.out.trans (hbl.out.mono HB1.out.size)
      have hcx : wr.cell? ⟨b, o + k, none⟩ = some (.int .i64 x) := (hbw.cell (p := ⟨b, o + k, none⟩) hb).trans (HC.out k x hx)
      have HCY := hidden (HC'.out k y hy)
      have HBW := hidden hbw
      obtain ⟨F, hF, hFb⟩ := and_bound x 63 (by decide)
      have hF' : bits .and .i64 x 63 = (F : Int) := hF
      have hlenF := dec_len20 (1 + F) (by omega)
      have HT := hidden (textOf_len rs hgd.out.2.1)
      have hbr : w1.heap.size ≤ wr.heap.size := hbl.out.size
      clear hF hx hy hbw
      have hf1 : 1 ≤ 1 + F := by omega
      have hf2 : 1 + F ≤ 64 := by omega
      have ecast : (1 + (F : Int)) = ((1 + F : Nat) : Int) := by omega
      have HEC := hidden ecast
      clear ecast
      go_wp2_with fail
      rw [HEC.out]
      clear HEC hF' hFb
      generalize 1 + F = f at *
      refine (put_at HE1.out (hbl.out.alloc hbl.out.size _) f (by omega)).mono ?_
      rintro e w2 ⟨rfl, hb2⟩
      have hv2 : Var w2 wr.heap.size (f : Int) (-1) := (Var.new wr (f : Int) (-1)).on hb2
      have hB2 : Below wr.heap.size wr w2 := ((Below.refl _ wr).alloc (Nat.le_refl _) _).trans (hb2.mono (by simp))
      have hcy : w2.cell? ⟨b', o' + k, none⟩ = some (.int .i64 y) := ((HBW.out.trans (hB2.mono HBW.out.size)).cell (p := ⟨b', o' + k, none⟩) hb').trans HCY.out
      have hown2 := owns_later hown hB2
      have hrl := (hown.lt)
      have HOL := hidden hrl
      have HOWN := hidden hown
      have HV2 := hidden hv2
      have HB2 := hidden hB2
      have c0 := hv2.c0
      have c1 := hv2.c1
      have fz := hv2.fz
      clear hb2 hv2 hB2 hown hrl hcx
      generalize hbrr : wr.heap.size = br at *
      have HBR := hidden hbrr
      clear hbrr
      obtain ⟨P, hP, hPb⟩ := and_bound y 1 (by decide)
      by_cases hP1 : P = 1
      · subst hP1
        have hP' : bits .and .i64 y 1 = (1 : Int) := hP
        clear hP hPb
        go_upto_region 17 with fail
        have hgood : Good ((f : Int), (-1)) := ⟨by simp only; omega, by simp only; omega, Or.inl rfl⟩
        rw [text_one f]
        have hXl := partText_len _ hgood
        generalize hXe : partText ((f : Int), (-1)) = X at *
        have HXE := hidden hXe
        clear hXe
        have hTl : (textOf rs).length ≤ 420 := by have := HT.out; have := hgd.out.1; omega
        have hrsl : rs.length ≤ 10 := by have := hgd.out.1; omega
        have hw2s : w1.heap.size ≤ w2.heap.size := by have := HB2.out.size; have := HBR.out; omega
        have HBLW := hidden (hbl.out.trans (HB2.out.mono hbr))
        have HGOOD := hidden hgood
        clear hgood
        by_cases hk0 : 0 < k
        · have HRN := hidden (show rs ≠ [] from fun h => by have := hgd.out.1; rw [h] at this; simp at this; omega)
          go_wp2_with (at_builtin; go_must (refine wpList_append_own _ rfl (.tmp 90) (.tmp 92) 22 rfl w1.heap.size 39 i0 (.agg #[.int .i64 0, .int .i64 0]) 2 16 Tryd.underlying22 hi hz0 hz1 hz2 rfl (by decide) _ _ _ rfl (hown2.alloc _) ⟨_, 0, none⟩ 1 1 [.int .i64 (f : Int), .int .i64 (-1)] rfl rfl (cell_two_new _ _ _ _) (by intro u hu; simp at hu; rcases hu with rfl | rfl <;> rfl) (by unfold maxLen; omega) (by omega) (by simp; omega) ?_; intro v' w5 hown5 hgrow5 hiff; clear hiff; have hv5 := (HV2.out.on ((Below.refl _ w2).alloc (Nat.le_refl _) _)).grown hgrow5 (fun g hg => (HOL.out g hg).2); have c0' := hv5.c0; have c1' := hv5.c1; have HB5 := hidden ((HBLW.out.alloc hw2s _).grown hgrow5 (by simp; omega) (fun g hg => (HOL.out g hg).1)); have HO5 := hidden hown5; clear hv5 hgrow5 hown5; refine Hid.out ?_))
          refine Lib.hid ?_
          clear hown2 hP' hcy c0 c1 fz
          cases bb
          · by_cases hnf : (f : Int) ≤ n
            · have HIN := hidden (in_yes (t := (-1)) hnf (Or.inl (by omega)))
              go_wp2_with fail
              go_roundw
              case rel => exact ⟨k + 1, rs ++ [((f : Int), (-1))], true, by go_num, by omega, by rw [text_comma, ← HXE.out, textOf_next _ HRN.out], rfl, by rw [List.length_append, cellsR_app]; exact HO5.out, HB5.out, by rw [List.length_append, hgd.out.1]; rfl, good_snoc hgd.out.2.1 HGOOD.out, by rw [any_snoc, ← hgd.out.2.2, HIN.out]; rfl⟩
              case measure => simp [intOf]; omega
            · have HIN := hidden (in_no (f := (f : Int)) (t := (-1)) (n := n) (fun h => hnf h.1))
              go_wp2_with fail
              go_roundw
              case rel => exact ⟨k + 1, rs ++ [((f : Int), (-1))], false, by go_num, by omega, by rw [text_comma, ← HXE.out, textOf_next _ HRN.out], rfl, by rw [List.length_append, cellsR_app]; exact HO5.out, HB5.out, by rw [List.length_append, hgd.out.1]; rfl, good_snoc hgd.out.2.1 HGOOD.out, by rw [any_snoc, ← hgd.out.2.2, HIN.out]; rfl⟩
              case measure => simp [intOf]; omega
          · go_wp2_with fail
            go_roundw
            case rel => exact ⟨k + 1, rs ++ [((f : Int), (-1))], true, by go_num, by omega, by rw [text_comma, ← HXE.out, textOf_next _ HRN.out], rfl, by rw [List.length_append, cellsR_app]; exact HO5.out, HB5.out, by rw [List.length_append, hgd.out.1]; rfl, good_snoc hgd.out.2.1 HGOOD.out, by rw [any_snoc, ← hgd.out.2.2]; rfl⟩
            case measure => simp [intOf]; omega
        · have HRN := hidden (show rs = [] from List.eq_nil_of_length_eq_zero (by have := hgd.out.1; omega))
          go_wp2_with (at_builtin; go_must (refine wpList_append_own _ rfl (.tmp 90) (.tmp 92) 22 rfl w1.heap.size 39 i0 (.agg #[.int .i64 0, .int .i64 0]) 2 16 Tryd.underlying22 hi hz0 hz1 hz2 rfl (by decide) _ _ _ rfl (hown2.alloc _) ⟨_, 0, none⟩ 1 1 [.int .i64 (f : Int), .int .i64 (-1)] rfl rfl (cell_two_new _ _ _ _) (by intro u hu; simp at hu; rcases hu with rfl | rfl <;> rfl) (by unfold maxLen; omega) (by omega) (by simp; omega) ?_; intro v' w5 hown5 hgrow5 hiff; clear hiff; have hv5 := (HV2.out.on ((Below.refl _ w2).alloc (Nat.le_refl _) _)).grown hgrow5 (fun g hg => (HOL.out g hg).2); have c0' := hv5.c0; have c1' := hv5.c1; have HB5 := hidden ((HBLW.out.alloc hw2s _).grown hgrow5 (by simp; omega) (fun g hg => (HOL.out g hg).1)); have HO5 := hidden hown5; clear hv5 hgrow5 hown5; refine Hid.out ?_))
          refine Lib.hid ?_
          clear hown2 hP' hcy c0 c1 fz
          cases bb
          · by_cases hnf : (f : Int) ≤ n
            · have HIN := hidden (in_yes (t := (-1)) hnf (Or.inl (by omega)))
              go_wp2_with fail
              go_roundw
              case rel => exact ⟨k + 1, rs ++ [((f : Int), (-1))], true, by go_num, by omega, by rw [app_text, ← HXE.out, textOf_first _ HRN.out], rfl, by rw [List.length_append, cellsR_app]; exact HO5.out, HB5.out, by rw [List.length_append, hgd.out.1]; rfl, good_snoc hgd.out.2.1 HGOOD.out, by rw [any_snoc, ← hgd.out.2.2, HIN.out]; rfl⟩
              case measure => simp [intOf]; omega
            · have HIN := hidden (in_no (f := (f : Int)) (t := (-1)) (n := n) (fun h => hnf h.1))
              go_wp2_with fail
              go_roundw
              case rel => exact ⟨k + 1, rs ++ [((f : Int), (-1))], false, by go_num, by omega, by rw [app_text, ← HXE.out, textOf_first _ HRN.out], rfl, by rw [List.length_append, cellsR_app]; exact HO5.out, HB5.out, by rw [List.length_append, hgd.out.1]; rfl, good_snoc hgd.out.2.1 HGOOD.out, by rw [any_snoc, ← hgd.out.2.2, HIN.out]; rfl⟩
              case measure => simp [intOf]; omega
          · go_wp2_with fail
            go_roundw
            case rel => exact ⟨k + 1, rs ++ [((f : Int), (-1))], true, by go_num, by omega, by rw [app_text, ← HXE.out, textOf_first _ HRN.out], rfl, by rw [List.length_append, cellsR_app]; exact HO5.out, HB5.out, by rw [List.length_append, hgd.out.1]; rfl, good_snoc hgd.out.2.1 HGOOD.out, by rw [any_snoc, ← hgd.out.2.2]; rfl⟩
            case measure => simp [intOf]; omega
      · have hP0 : P = 0 := by omega
        subst hP0
        have hP' : bits .and .i64 y 1 = (0 : Int) := hP
        clear hP hPb hP1
        obtain ⟨G, hG, hGb⟩ := and_bound (y / 2) 15 (by decide)
        have hG' : bits .and .i64 (y / 2) 15 = (G : Int) := hG
        clear hG
        have hbb' : ¬ b' = br := by have := HBW.out.size; have := HBR.out; omega
        have hbb2 : ¬ br = b' := by omega
        have HEC2 := hidden (show ((f : Int) + (G : Int)) = ((f + G : Nat) : Int) by omega)
        have hm1 : f ≤ f + G := by omega
        have hm2 : f + G ≤ 79 := by omega
        go_upto_region 13 with fail
        go_region
        rw [HEC2.out]
        clear HEC2 hG' hGb hP' hcy c0 c1 fz hown2 hbb' hbb2
        generalize f + G = m at *
        have hlenM := dec_len20 m (by omega)
        have HV3 := hidden (HV2.out.set (m : Int))
        have HB3 := hidden (((HB2.out.setCell (p := ⟨br, 1, none⟩) (Nat.le_refl _) (.int .i64 (m : Int)))).drew)
        clear HV2 HB2
        generalize (w2.setCell ⟨br, 1, none⟩ (Value.int IntKind.i64 (m : Int))).drew = w3 at *
        have c0b := HV3.out.c0
        have c1b := HV3.out.c1
        go_wp2_with fail
        refine (put_at HE1.out (hbl.out.trans (HB3.out.mono hbr)) m (by omega)).mono ?_
        rintro e w4 ⟨rfl, hb4⟩
        have HV4 := hidden (HV3.out.on hb4)
        have HB4 := hidden (HB3.out.trans (hb4.mono (Nat.le_of_lt HV3.out.lt)))
        have hown4 := owns_later HOWN.out (by rw [HBR.out]; exact HB4.out)
        clear hb4 HV3 HB3 c0b c1b
        have c0d := HV4.out.c0
        have c1d := HV4.out.c1
        by_cases hfm : m = f
        · subst hfm
          go_wp2_with fail
          refine (put_at HE1.out (hbl.out.trans (HB4.out.mono hbr)) m (by omega)).mono ?_
          rintro e w6 ⟨rfl, hb6⟩
          have HV6 := hidden (HV4.out.on hb6)
          have HB6 := hidden (HB4.out.trans (hb6.mono (Nat.le_of_lt HV4.out.lt)))
          have hown6 := owns_later HOWN.out (by rw [HBR.out]; exact HB6.out)
          clear hb6 HV4 HB4 c0d c1d hown4
          have c0e := HV6.out.c0
          have c1e := HV6.out.c1
          go_upto_region 17 with fail
          have hgood : Good ((m : Int), (m : Int)) := ⟨by simp only; omega, by simp only; omega, Or.inr ⟨by simp only; omega, by simp only; omega⟩⟩
          rw [text_same m]
          have hXl := partText_len _ hgood
          generalize hXe : partText ((m : Int), (m : Int)) = X at *
          have HXE := hidden hXe
          clear hXe
          have hTl : (textOf rs).length ≤ 420 := by have := HT.out; have := hgd.out.1; omega
          have hrsl : rs.length ≤ 10 := by have := hgd.out.1; omega
          have hw2s : w1.heap.size ≤ w6.heap.size := by have := HB6.out.size; have := HBR.out; omega
          have HBLW := hidden (hbl.out.trans (HB6.out.mono hbr))
          have HGOOD := hidden hgood
          clear hgood
          by_cases hk0 : 0 < k
          · have HRN := hidden (show rs ≠ [] from fun h => by have := hgd.out.1; rw [h] at this; simp at this; omega)
            go_wp2_with (at_builtin; go_must (refine wpList_append_own _ rfl (.tmp 90) (.tmp 92) 22 rfl w1.heap.size 39 i0 (.agg #[.int .i64 0, .int .i64 0]) 2 16 Tryd.underlying22 hi hz0 hz1 hz2 rfl (by decide) _ _ _ rfl (hown6.alloc _) ⟨_, 0, none⟩ 1 1 [.int .i64 (m : Int), .int .i64 (m : Int)] rfl rfl (cell_two_new _ _ _ _) (by intro u hu; simp at hu; rcases hu with rfl | rfl <;> rfl) (by unfold maxLen; omega) (by omega) (by simp; omega) ?_; intro v' w5 hown5 hgrow5 hiff; clear hiff; have hv5 := (HV6.out.on ((Below.refl _ w6).alloc (Nat.le_refl _) _)).grown hgrow5 (fun g hg => (HOL.out g hg).2); have c0' := hv5.c0; have c1' := hv5.c1; have HB5 := hidden ((HBLW.out.alloc hw2s _).grown hgrow5 (by simp; omega) (fun g hg => (HOL.out g hg).1)); have HO5 := hidden hown5; clear hv5 hgrow5 hown5; refine Hid.out ?_))
            refine Lib.hid ?_
            clear hown6 c0e c1e
            cases bb
            · by_cases hnf : (m : Int) ≤ n
              · by_cases hnt : n ≤ (m : Int)
                · have HIN := hidden (in_yes (t := (m : Int)) hnf (Or.inr hnt))
                  go_wp2_with fail
                  go_roundw
                  case rel => exact ⟨k + 1, rs ++ [((m : Int), (m : Int))], true, by go_num, by omega, by rw [text_comma, ← HXE.out, textOf_next _ HRN.out], rfl, by rw [List.length_append, cellsR_app]; exact HO5.out, HB5.out, by rw [List.length_append, hgd.out.1]; rfl, good_snoc hgd.out.2.1 HGOOD.out, by rw [any_snoc, ← hgd.out.2.2, HIN.out]; rfl⟩
                  case measure => simp [intOf]; omega
                · have HIN := hidden (in_no (f := (m : Int)) (t := (m : Int)) (n := n) (fun h => by omega))
                  go_wp2_with fail
                  go_roundw
                  case rel => exact ⟨k + 1, rs ++ [((m : Int), (m : Int))], false, by go_num, by omega, by rw [text_comma, ← HXE.out, textOf_next _ HRN.out], rfl, by rw [List.length_append, cellsR_app]; exact HO5.out, HB5.out, by rw [List.length_append, hgd.out.1]; rfl, good_snoc hgd.out.2.1 HGOOD.out, by rw [any_snoc, ← hgd.out.2.2, HIN.out]; rfl⟩
                  case measure => simp [intOf]; omega
              · have HIN := hidden (in_no (f := (m : Int)) (t := (m : Int)) (n := n) (fun h => hnf h.1))
                go_wp2_with fail
                go_roundw
                case rel => exact ⟨k + 1, rs ++ [((m : Int), (m : Int))], false, by go_num, by omega, by rw [text_comma, ← HXE.out, textOf_next _ HRN.out], rfl, by rw [List.length_append, cellsR_app]; exact HO5.out, HB5.out, by rw [List.length_append, hgd.out.1]; rfl, good_snoc hgd.out.2.1 HGOOD.out, by rw [any_snoc, ← hgd.out.2.2, HIN.out]; rfl⟩
                case measure => simp [intOf]; omega
            · go_wp2_with fail
              go_roundw
              case rel => exact ⟨k + 1, rs ++ [((m : Int), (m : Int))], true, by go_num, by omega, by rw [text_comma, ← HXE.out, textOf_next _ HRN.out], rfl, by rw [List.length_append, cellsR_app]; exact HO5.out, HB5.out, by rw [List.length_append, hgd.out.1]; rfl, good_snoc hgd.out.2.1 HGOOD.out, by rw [any_snoc, ← hgd.out.2.2]; rfl⟩
              case measure => simp [intOf]; omega
          · have HRN := hidden (show rs = [] from List.eq_nil_of_length_eq_zero (by have := hgd.out.1; omega))
            go_wp2_with (at_builtin; go_must (refine wpList_append_own _ rfl (.tmp 90) (.tmp 92) 22 rfl w1.heap.size 39 i0 (.agg #[.int .i64 0, .int .i64 0]) 2 16 Tryd.underlying22 hi hz0 hz1 hz2 rfl (by decide) _ _ _ rfl (hown6.alloc _) ⟨_, 0, none⟩ 1 1 [.int .i64 (m : Int), .int .i64 (m : Int)] rfl rfl (cell_two_new _ _ _ _) (by intro u hu; simp at hu; rcases hu with rfl | rfl <;> rfl) (by unfold maxLen; omega) (by omega) (by simp; omega) ?_; intro v' w5 hown5 hgrow5 hiff; clear hiff; have hv5 := (HV6.out.on ((Below.refl _ w6).alloc (Nat.le_refl _) _)).grown hgrow5 (fun g hg => (HOL.out g hg).2); have c0' := hv5.c0; have c1' := hv5.c1; have HB5 := hidden ((HBLW.out.alloc hw2s _).grown hgrow5 (by simp; omega) (fun g hg => (HOL.out g hg).1)); have HO5 := hidden hown5; clear hv5 hgrow5 hown5; refine Hid.out ?_))
            refine Lib.hid ?_
            clear hown6 c0e c1e
            cases bb
            · by_cases hnf : (m : Int) ≤ n
              · by_cases hnt : n ≤ (m : Int)
                · have HIN := hidden (in_yes (t := (m : Int)) hnf (Or.inr hnt))
                  go_wp2_with fail
                  go_roundw
                  case rel => exact ⟨k + 1, rs ++ [((m : Int), (m : Int))], true, by go_num, by omega, by rw [app_text, ← HXE.out, textOf_first _ HRN.out], rfl, by rw [List.length_append, cellsR_app]; exact HO5.out, HB5.out, by rw [List.length_append, hgd.out.1]; rfl, good_snoc hgd.out.2.1 HGOOD.out, by rw [any_snoc, ← hgd.out.2.2, HIN.out]; rfl⟩
                  case measure => simp [intOf]; omega
                · have HIN := hidden (in_no (f := (m : Int)) (t := (m : Int)) (n := n) (fun h => by omega))
                  go_wp2_with fail
                  go_roundw
                  case rel => exact ⟨k + 1, rs ++ [((m : Int), (m : Int))], false, by go_num, by omega, by rw [app_text, ← HXE.out, textOf_first _ HRN.out], rfl, by rw [List.length_append, cellsR_app]; exact HO5.out, HB5.out, by rw [List.length_append, hgd.out.1]; rfl, good_snoc hgd.out.2.1 HGOOD.out, by rw [any_snoc, ← hgd.out.2.2, HIN.out]; rfl⟩
                  case measure => simp [intOf]; omega
              · have HIN := hidden (in_no (f := (m : Int)) (t := (m : Int)) (n := n) (fun h => hnf h.1))
                go_wp2_with fail
                go_roundw
                case rel => exact ⟨k + 1, rs ++ [((m : Int), (m : Int))], false, by go_num, by omega, by rw [app_text, ← HXE.out, textOf_first _ HRN.out], rfl, by rw [List.length_append, cellsR_app]; exact HO5.out, HB5.out, by rw [List.length_append, hgd.out.1]; rfl, good_snoc hgd.out.2.1 HGOOD.out, by rw [any_snoc, ← hgd.out.2.2, HIN.out]; rfl⟩
                case measure => simp [intOf]; omega
            · go_wp2_with fail
              go_roundw
              case rel => exact ⟨k + 1, rs ++ [((m : Int), (m : Int))], true, by go_num, by omega, by rw [app_text, ← HXE.out, textOf_first _ HRN.out], rfl, by rw [List.length_append, cellsR_app]; exact HO5.out, HB5.out, by rw [List.length_append, hgd.out.1]; rfl, good_snoc hgd.out.2.1 HGOOD.out, by rw [any_snoc, ← hgd.out.2.2]; rfl⟩
              case measure => simp [intOf]; omega

        · have hfm' : f < m := by omega
          have hmf : ((m : Int) == (f : Int)) = false := by rw [beq_eq_false_iff_ne]; omega
          go_upto_region 17 with fail
          have hgood : Good ((f : Int), (m : Int)) := ⟨by simp only; omega, by simp only; omega, Or.inr ⟨by simp only; omega, by simp only; omega⟩⟩
          rw [text_two f m hfm']
          have hXl := partText_len _ hgood
          generalize hXe : partText ((f : Int), (m : Int)) = X at *
          have HXE := hidden hXe
          clear hXe
          have hTl : (textOf rs).length ≤ 420 := by have := HT.out; have := hgd.out.1; omega
          have hrsl : rs.length ≤ 10 := by have := hgd.out.1; omega
          have hw2s : w1.heap.size ≤ w4.heap.size := by have := HB4.out.size; have := HBR.out; omega
          have HBLW := hidden (hbl.out.trans (HB4.out.mono hbr))
          have HGOOD := hidden hgood
          clear hgood
          by_cases hk0 : 0 < k
          · have HRN := hidden (show rs ≠ [] from fun h => by have := hgd.out.1; rw [h] at this; simp at this; omega)
            go_wp2_with (at_builtin; go_must (refine wpList_append_own _ rfl (.tmp 90) (.tmp 92) 22 rfl w1.heap.size 39 i0 (.agg #[.int .i64 0, .int .i64 0]) 2 16 Tryd.underlying22 hi hz0 hz1 hz2 rfl (by decide) _ _ _ rfl (hown4.alloc _) ⟨_, 0, none⟩ 1 1 [.int .i64 (f : Int), .int .i64 (m : Int)] rfl rfl (cell_two_new _ _ _ _) (by intro u hu; simp at hu; rcases hu with rfl | rfl <;> rfl) (by unfold maxLen; omega) (by omega) (by simp; omega) ?_; intro v' w5 hown5 hgrow5 hiff; clear hiff; have hv5 := (HV4.out.on ((Below.refl _ w4).alloc (Nat.le_refl _) _)).grown hgrow5 (fun g hg => (HOL.out g hg).2); have c0' := hv5.c0; have c1' := hv5.c1; have HB5 := hidden ((HBLW.out.alloc hw2s _).grown hgrow5 (by simp; omega) (fun g hg => (HOL.out g hg).1)); have HO5 := hidden hown5; clear hv5 hgrow5 hown5; refine Hid.out ?_))
            refine Lib.hid ?_
            clear hown4 c0d c1d
            cases bb
            · by_cases hnf : (f : Int) ≤ n
              · by_cases hnt : n ≤ (m : Int)
                · have HIN := hidden (in_yes (t := (m : Int)) hnf (Or.inr hnt))
                  go_wp2_with fail
                  go_roundw
                  case rel => exact ⟨k + 1, rs ++ [((f : Int), (m : Int))], true, by go_num, by omega, by rw [text_comma, ← HXE.out, textOf_next _ HRN.out], rfl, by rw [List.length_append, cellsR_app]; exact HO5.out, HB5.out, by rw [List.length_append, hgd.out.1]; rfl, good_snoc hgd.out.2.1 HGOOD.out, by rw [any_snoc, ← hgd.out.2.2, HIN.out]; rfl⟩
                  case measure => simp [intOf]; omega
                · have HIN := hidden (in_no (f := (f : Int)) (t := (m : Int)) (n := n) (fun h => by omega))
                  go_wp2_with fail
                  go_roundw
                  case rel => exact ⟨k + 1, rs ++ [((f : Int), (m : Int))], false, by go_num, by omega, by rw [text_comma, ← HXE.out, textOf_next _ HRN.out], rfl, by rw [List.length_append, cellsR_app]; exact HO5.out, HB5.out, by rw [List.length_append, hgd.out.1]; rfl, good_snoc hgd.out.2.1 HGOOD.out, by rw [any_snoc, ← hgd.out.2.2, HIN.out]; rfl⟩
                  case measure => simp [intOf]; omega
              · have HIN := hidden (in_no (f := (f : Int)) (t := (m : Int)) (n := n) (fun h => hnf h.1))
                go_wp2_with fail
                go_roundw
                case rel => exact ⟨k + 1, rs ++ [((f : Int), (m : Int))], false, by go_num, by omega, by rw [text_comma, ← HXE.out, textOf_next _ HRN.out], rfl, by rw [List.length_append, cellsR_app]; exact HO5.out, HB5.out, by rw [List.length_append, hgd.out.1]; rfl, good_snoc hgd.out.2.1 HGOOD.out, by rw [any_snoc, ← hgd.out.2.2, HIN.out]; rfl⟩
                case measure => simp [intOf]; omega
            · go_wp2_with fail
              go_roundw
              case rel => exact ⟨k + 1, rs ++ [((f : Int), (m : Int))], true, by go_num, by omega, by rw [text_comma, ← HXE.out, textOf_next _ HRN.out], rfl, by rw [List.length_append, cellsR_app]; exact HO5.out, HB5.out, by rw [List.length_append, hgd.out.1]; rfl, good_snoc hgd.out.2.1 HGOOD.out, by rw [any_snoc, ← hgd.out.2.2]; rfl⟩
              case measure => simp [intOf]; omega
          · have HRN := hidden (show rs = [] from List.eq_nil_of_length_eq_zero (by have := hgd.out.1; omega))
            go_wp2_with (at_builtin; go_must (refine wpList_append_own _ rfl (.tmp 90) (.tmp 92) 22 rfl w1.heap.size 39 i0 (.agg #[.int .i64 0, .int .i64 0]) 2 16 Tryd.underlying22 hi hz0 hz1 hz2 rfl (by decide) _ _ _ rfl (hown4.alloc _) ⟨_, 0, none⟩ 1 1 [.int .i64 (f : Int), .int .i64 (m : Int)] rfl rfl (cell_two_new _ _ _ _) (by intro u hu; simp at hu; rcases hu with rfl | rfl <;> rfl) (by unfold maxLen; omega) (by omega) (by simp; omega) ?_; intro v' w5 hown5 hgrow5 hiff; clear hiff; have hv5 := (HV4.out.on ((Below.refl _ w4).alloc (Nat.le_refl _) _)).grown hgrow5 (fun g hg => (HOL.out g hg).2); have c0' := hv5.c0; have c1' := hv5.c1; have HB5 := hidden ((HBLW.out.alloc hw2s _).grown hgrow5 (by simp; omega) (fun g hg => (HOL.out g hg).1)); have HO5 := hidden hown5; clear hv5 hgrow5 hown5; refine Hid.out ?_))
            refine Lib.hid ?_
            clear hown4 c0d c1d
            cases bb
            · by_cases hnf : (f : Int) ≤ n
              · by_cases hnt : n ≤ (m : Int)
                · have HIN := hidden (in_yes (t := (m : Int)) hnf (Or.inr hnt))
                  go_wp2_with fail
                  go_roundw
                  case rel => exact ⟨k + 1, rs ++ [((f : Int), (m : Int))], true, by go_num, by omega, by rw [app_text, ← HXE.out, textOf_first _ HRN.out], rfl, by rw [List.length_append, cellsR_app]; exact HO5.out, HB5.out, by rw [List.length_append, hgd.out.1]; rfl, good_snoc hgd.out.2.1 HGOOD.out, by rw [any_snoc, ← hgd.out.2.2, HIN.out]; rfl⟩
                  case measure => simp [intOf]; omega
                · have HIN := hidden (in_no (f := (f : Int)) (t := (m : Int)) (n := n) (fun h => by omega))
                  go_wp2_with fail
                  go_roundw
                  case rel => exact ⟨k + 1, rs ++ [((f : Int), (m : Int))], false, by go_num, by omega, by rw [app_text, ← HXE.out, textOf_first _ HRN.out], rfl, by rw [List.length_append, cellsR_app]; exact HO5.out, HB5.out, by rw [List.length_append, hgd.out.1]; rfl, good_snoc hgd.out.2.1 HGOOD.out, by rw [any_snoc, ← hgd.out.2.2, HIN.out]; rfl⟩
                  case measure => simp [intOf]; omega
              · have HIN := hidden (in_no (f := (f : Int)) (t := (m : Int)) (n := n) (fun h => hnf h.1))
                go_wp2_with fail
                go_roundw
                case rel => exact ⟨k + 1, rs ++ [((f : Int), (m : Int))], false, by go_num, by omega, by rw [app_text, ← HXE.out, textOf_first _ HRN.out], rfl, by rw [List.length_append, cellsR_app]; exact HO5.out, HB5.out, by rw [List.length_append, hgd.out.1]; rfl, good_snoc hgd.out.2.1 HGOOD.out, by rw [any_snoc, ← hgd.out.2.2, HIN.out]; rfl⟩
                case measure => simp [intOf]; omega
            · go_wp2_with fail
              go_roundw
              case rel => exact ⟨k + 1, rs ++ [((f : Int), (m : Int))], true, by go_num, by omega, by rw [app_text, ← HXE.out, textOf_first _ HRN.out], rfl, by rw [List.length_append, cellsR_app]; exact HO5.out, HB5.out, by rw [List.length_append, hgd.out.1]; rfl, good_snoc hgd.out.2.1 HGOOD.out, by rw [any_snoc, ← hgd.out.2.2]; rfl⟩
              case measure => simp [intOf]; omega

    · have hne : rs ≠ [] := fun h => by have := hgd.out.1; rw [h] at this; simp at this; omega
      have HT2 := hidden (ranges_text rs hne hgd.out.2.1)
      have HH := hidden (has_text rs n hne hgd.out.2.1)
      have hrsl : rs.length ≤ 10 := by have := hgd.out.1; omega
      have hTl : (textOf rs).length ≤ 420 := by have := textOf_len rs hgd.out.2.1; omega
      have HL := hidden (RngAt.of_owns hown)
      clear hne hown
      go_wp2_with fail
      refine (ranges_any ⟨(textOf rs).toArray⟩ wr (HE1.out.on hbl.out) (by show (textOf rs).length ≤ _; omega)).mono ?_
      rintro e w2 ⟨u, rfl, hx, hb2⟩
      rw [show ranges (⟨(textOf rs).toArray⟩ : ByteArray).data.toList = some rs from HT2.out] at hx ⊢
      have HX2 := hidden (show RngAt w2 u rs from hx)
      have HL2 := hidden (HL.out.later hb2)
      have HB2 := hidden ((HB1.out.trans (hbl.out.mono HB1.out.size)).trans (hb2.mono (HB1.out.trans (hbl.out.mono HB1.out.size)).size))
      obtain ⟨ao, cap2, rfl⟩ := hx.shape
      clear hx hb2 HL
      go_wp2_with fail
      refine (same_any _ _ _ _ _ HX2.out HL2.out (by omega) (by omega)).mono ?_
      rintro e w3 ⟨rfl, hb3⟩
      rw [decide_eq_true rfl]
      have HX3 := hidden (HX2.out.later hb3)
      have HB3 := hidden (HB2.out.trans (hb3.mono HB2.out.size))
      clear hb3 HX2 HL2 HB2
      go_wp2_with fail
      refine (has_any _ _ _ _ HX3.out (by omega)).mono ?_
      rintro e w4 ⟨rfl, hb4⟩
      rw [HH.out, ← hgd.out.2.2]
      have HB4 := hidden (HB3.out.trans (hb4.mono HB3.out.size))
      clear hb4 HX3 HB3
      go_wp2_with fail
      refine (has_any (.slice none 0 0) [] n _ (Or.inl ⟨rfl, _, _, rfl⟩) (by decide)).mono ?_
      rintro e w5 ⟨rfl, hb5⟩
      rw [has_nil]
      have HB5 := hidden (HB4.out.trans (hb5.mono HB4.out.size))
      clear hb5 HB4
      go_wp2_with fail
      go_ret
      exact ⟨ret_bool (by simp), HB5.out⟩

set_option maxHeartbeats 1000000 in
theorem numsRanges_out (v u : Value) (xs ys : List Int) (n : Int) (w : World) (he : Env w) (hr : IntsAt w v xs) (hq : IntsAt w u ys) (hl : xs.length ≤ 9223372036854775807) (hout : xs.length < 1 ∨ 10 < xs.length ∨ ys.length < xs.length) :
    Calls Tryd.prog 5 #[v, u, .int .i64 n] w fun e w' => e = .returned (.bool true) ∧ Below w.heap.size w w' := by
  have HE := hidden he
  clear he
  obtain ⟨ao, cap, rfl⟩ := hr.shape
  obtain ⟨bo, cap', rfl⟩ := hq.shape
  clear hr hq
  by_cases c1 : xs.length < 1
  · clear hout
    go_enter Tryd.func5, Tryd.ntmps5
    go_wp2_with fail
    refine (alive_any _ HE.out).mono ?_
    rintro e w1 ⟨rfl, hb1⟩
    have Hb1 := hidden hb1
    clear hb1
    go_wp2_with fail
    go_ret
    exact ⟨rfl, Hb1.out⟩
  · by_cases c2 : 10 < xs.length
    · clear hout
      go_enter Tryd.func5, Tryd.ntmps5
      go_wp2_with fail
      refine (alive_any _ HE.out).mono ?_
      rintro e w1 ⟨rfl, hb1⟩
      have Hb1 := hidden hb1
      clear hb1
      go_wp2_with fail
      go_ret
      exact ⟨rfl, Hb1.out⟩
    · have c3 : ys.length < xs.length := by omega
      clear hout
      go_enter Tryd.func5, Tryd.ntmps5
      go_wp2_with fail
      refine (alive_any _ HE.out).mono ?_
      rintro e w1 ⟨rfl, hb1⟩
      have Hb1 := hidden hb1
      clear hb1
      go_wp2_with fail
      go_ret
      exact ⟨rfl, Hb1.out⟩

theorem numsRanges_any (v u : Value) (xs ys : List Int) (n : Int) (w : World) (he : Env w) (hr : IntsAt w v xs) (hq : IntsAt w u ys) (hl : xs.length ≤ 9223372036854775807) :
    Calls Tryd.prog 5 #[v, u, .int .i64 n] w fun e w' => e = .returned (.bool true) ∧ Below w.heap.size w w' := by
  by_cases hout : xs.length < 1 ∨ 10 < xs.length ∨ ys.length < xs.length
  · exact numsRanges_out v u xs ys n w he hr hq hl hout
  · exact numsRanges_in v u xs ys n w he hr hq (by omega) (by omega) (by omega)

end Go.Proofs.YtdlmddeiopdioaaDoor
