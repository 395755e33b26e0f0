/-
  The law PathsParts, called with any list of texts and any list of ints, returns true, and nothing of what was in memory has turned; conditions: the lists and the texts are shorter than any memory, and a cell of the library's holds an int.
-/
import Derived.Test.YtpgcdjoghcibiaaDoorBit
import Derived.Test.YtpgcdjoghcibiaaDoorArg
import Derived.Deep.RegionHeld3
import Derived.Deep.Cut
namespace Go.Proofs.YtpgcdjoghcibiaaDoor
open Go.RowKit Go.Proofs.YtpgcdjoghcibiaaDoor.Nm

set_option maxHeartbeats 2000000 in
theorem pathsParts_out (v u : Value) (xs : List (List UInt8)) (zs : List Int) (w : World) (he : Env w) (hr : RowAt w v xs) (hq : IntsAt w u zs) (hxl : xs.length ≤ 9223372036854775807) (hout : xs.length < 1 ∨ 20 < xs.length ∨ zs.length ≤ xs.length) :
    Calls Tryd.prog 5 #[v, u] w fun e w' => e = .returned (.bool true) ∧ Below w.heap.size w w' := by
  obtain ⟨ao, cap, rfl⟩ := hr.shape
  obtain ⟨ao', cap', rfl⟩ := hq.shape
  clear hr hq
  have key : xs.length < 1 ∨ (¬ xs.length < 1 ∧ 20 < xs.length) ∨ (¬ xs.length < 1 ∧ ¬ 20 < xs.length ∧ zs.length ≤ xs.length) := by omega
  clear hout
  rcases key with h | ⟨h1, h2⟩ | ⟨h1, h2, h3⟩
  all_goals
    go_enter Tryd.func5, Tryd.ntmps5
    go_wp2_with fail
    refine (alive_any _ he).mono ?_
    rintro e w1 ⟨rfl, hb1⟩
    have HB1 := hidden hb1
    clear hb1 he
    go_wp2
    go_ret
    exact ⟨rfl, HB1.out⟩

/-- what the walk keeps -/
structure K (w : World) (L W : Value) (xs ws : List (List UInt8)) (wr : World) : Prop where
  env : Env wr
  below : Below w.heap.size w wr
  row : RowAt wr L xs
  want : RowAt wr W ws

theorem K.on {w : World} {L W : Value} {xs ws : List (List UInt8)} {wr w' : World} (h : K w L W xs ws wr) (hb : Below wr.heap.size wr w') : K w L W xs ws w' :=
  ⟨h.env.on hb, h.below.trans (hb.mono h.below.size), h.row.later hb, h.want.later hb⟩
theorem below_drew (w : World) : Below w.heap.size w w.drew := (Below.refl _ w).drew
theorem K.drew {w : World} {L W : Value} {xs ws : List (List UInt8)} {wr : World} (h : K w L W xs ws wr) : K w L W xs ws wr.drew := h.on (below_drew wr)
theorem RowAt.drew {w : World} {v : Value} {xs : List (List UInt8)} (h : RowAt w v xs) : RowAt w.drew v xs := h.later (below_drew w)

theorem parts_kept {w : World} {L W : Value} {xs ws : List (List UInt8)} {wr : World} (h : K w L W xs ws wr) (l : List UInt8) (ys : List (List UInt8)) (hy : parts l = ys) (hs : l.length ≤ 1048576) :
    Calls Tryd.prog 11 #[.string ⟨l.toArray⟩] wr fun e w' => ∃ v, e = .returned v ∧ RowAt w' v ys ∧ K w L W xs ws w' := by
  refine (parts_any ⟨l.toArray⟩ wr h.env hs).mono ?_
  rintro e w' ⟨v, rfl, hr, hb⟩
  exact ⟨v, rfl, by rw [← hy]; exact hr, h.on hb⟩
theorem same_kept {w : World} {L W : Value} {xs ws : List (List UInt8)} {wr : World} (h : K w L W xs ws wr) (v u : Value) (ys : List (List UInt8)) (hv : RowAt wr v ys) (hu : RowAt wr u ys) (hl : ys.length ≤ 1048576) :
    Calls Tryd.prog 10 #[v, u] wr fun e w' => e = .returned (.bool true) ∧ K w L W xs ws w' := by
  refine (same_any v u ys ys wr hv hu hl hl).mono ?_
  rintro e w' ⟨rfl, hb⟩
  exact ⟨by rw [decide_eq_true rfl], h.on hb⟩
theorem base_kept {w : World} {L W : Value} {xs ws : List (List UInt8)} {wr : World} (h : K w L W xs ws wr) (l y : List UInt8) (hy : base l = y) (hs : l.length ≤ 1048576) :
    Calls Tryd.prog 13 #[.string ⟨l.toArray⟩] wr fun e w' => e = .returned (.string ⟨y.toArray⟩) ∧ K w L W xs ws w' := by
  refine (base_any ⟨l.toArray⟩ wr hs).mono ?_
  rintro e w' ⟨rfl, hb⟩
  exact ⟨by rw [← hy]; rfl, h.on hb⟩
theorem strip_kept {w : World} {L W : Value} {xs ws : List (List UInt8)} {wr : World} (h : K w L W xs ws wr) (l y : List UInt8) (hy : strip 1 l = y) (hs : l.length ≤ 1048576) :
    Calls Tryd.prog 8 #[.string ⟨l.toArray⟩, .int .i64 1] wr fun e w' => e = .returned (.string ⟨y.toArray⟩) ∧ K w L W xs ws w' := by
  refine (strip_any ⟨l.toArray⟩ 1 wr hs (by decide)).mono ?_
  rintro e w' ⟨rfl, hb⟩
  exact ⟨by rw [← hy]; rfl, h.on hb⟩

theorem RowAt.tail {w : World} {b o cap : Nat} {xs : List (List UInt8)} (h : RowAt w (.slice (some ⟨b, o, none⟩) xs.length cap) xs) (h1 : 1 ≤ xs.length) (hc : xs.length ≤ cap) : RowAt w (.slice (some ⟨b, o + 1, none⟩) (xs.length - 1) (cap - 1)) (xs.drop 1) := by
  obtain ⟨b2, o2, cap2, e, h2, h3, h4⟩ := h.cells (by intro h0; rw [h0] at h1; simp at h1)
  cases e
  refine Or.inr ⟨b, o + 1, cap - 1, by rw [List.length_drop], by rw [List.length_drop]; omega, h3, fun j x hx => ?_⟩
  rw [List.getElem?_drop] at hx
  rw [Nat.add_assoc]
  exact h4 (1 + j) x hx

theorem slashes (k : Nat) (h : k ≤ 3) : (⟨#[47, 47, 47]⟩ : ByteArray).extract 0 k = ⟨(List.replicate k 47).toArray⟩ := by
  match k, h with
  | 0, _ => rfl
  | 1, _ => rfl
  | 2, _ => rfl
  | 3, _ => rfl

theorem getD_of {α : Type} {xs : List α} {k : Nat} {x d : α} (h : xs[k]? = some x) : xs.getD k d = x := by
  rw [List.getD_eq_getElem?_getD, h]; rfl

/-- what the law asks of a part -/
def Good (xs : List (List UInt8)) (j : Nat) : Prop := (xs.getD j []) ≠ [] ∧ (xs.getD j []).length ≤ 20 ∧ ∀ x, x ∈ xs.getD j [] → x ≠ 47

set_option maxRecDepth 3000 in
set_option maxHeartbeats 4000000 in
theorem pathsParts_in (v u : Value) (xs : List (List UInt8)) (zs : List Int) (w : World) (he : Env w) (hr : RowAt w v xs) (hq : IntsAt w u zs) (h1 : 1 ≤ xs.length) (h20 : xs.length ≤ 20) (hlt : xs.length < zs.length) (hzl : zs.length ≤ 9223372036854775807) (hxm : ∀ x, x ∈ xs → x.length ≤ 9223372036854775807) :
    Calls Tryd.prog 5 #[v, u] w fun e w' => e = .returned (.bool true) ∧ Below w.heap.size w w' := by
  have HR := hidden hr
  obtain ⟨b, o, cap, rfl, hcap, hb, hc⟩ := hr.cells (by intro h; rw [h] at h1; simp at h1)
  obtain ⟨b', o', cap', rfl, hcap', hb', hc'⟩ := hq.cells (by intro h; rw [h] at hlt; simp at hlt)
  obtain ⟨z0, hz0⟩ : ∃ z, zs[0]? = some z := ⟨zs[0]'(by omega), List.getElem?_eq_getElem _⟩
  have hcell0 := hc' 0 z0 hz0
  obtain ⟨k0, hk0, hbit0⟩ : ∃ k0 : Nat, k0 ≤ 1 ∧ bits BinOp.and IntKind.i64 z0 1 = (k0 : Int) := by
    rcases bit_is z0 with h | h
    · exact ⟨0, by omega, h⟩
    · exact ⟨1, by omega, h⟩
  have HZ := hidden (getD_of (d := 0) hz0)
  have HBIT := hidden hbit0
  have HC0 := hidden hcell0
  have HC := hidden hc
  have HC' := hidden hc'
  have HXM := hidden hxm
  have HE := hidden he
  have HB0 := hidden (show (⟨#[47, 47, 47]⟩ : ByteArray).extract 0 k0 = ⟨(bld xs zs 0).toArray⟩ by
    rw [slashes k0 (by omega), bld, getD_of (d := 0) hz0, hbit0]; rfl)
  have hd1 : decide ((xs.length : Int) < 1) = false := by simp; omega
  have hd2 : decide ((20 : Int) < (xs.length : Int)) = false := by simp; omega
  have hd3 : decide (zs.length ≤ xs.length) = false := by simp; omega
  have hd4 : decide ((zs.length : Int) ≤ (xs.length : Int)) = false := by simp; omega
  clear hr hq hc hc' hxm he hz0
  go_enter Tryd.func5, Tryd.ntmps5
  go_wp2_with fail
  refine (alive_any _ HE.out).mono ?_
  rintro e w1 ⟨rfl, hb1⟩
  have hcell01 : w1.cell? ⟨b', o', none⟩ = some (.int .i64 z0) := (hb1.cell (p := ⟨b', o' + 0, none⟩) hb').trans hcell0
  have HB1 := hidden hb1
  clear hb1 hcell0
  go_upto_region 5 with fail
  rw [HB0.out]
  go_wp2
  go_loopw [6, 7] (fun t i wr => ∃ k : Nat, i = .int .i64 k ∧ k ≤ xs.length ∧ t = .string ⟨(bld xs zs k).toArray⟩ ∧ Hid (∀ j, j < k → Good xs j) ∧ Hid (Below w.heap.size w wr))
    (fun _ i _ => xs.length - (intOf i).toNat)
  case atStart => exact ⟨0, rfl, by omega, rfl, fun j hj => absurd hj (Nat.not_lt_zero _), HB1⟩
  case round =>
    obtain ⟨k, rfl, hk, rfl, hgood, hbl⟩ := hrel
    by_cases hkn : k < xs.length
    · obtain ⟨x, hx⟩ : ∃ x, xs[k]? = some x := ⟨xs[k], List.getElem?_eq_getElem hkn⟩
      have hcx : wr.cell? ⟨b, o + k, none⟩ = some (.string ⟨x.toArray⟩) := (hbl.out.cell (p := ⟨b, o + k, none⟩) hb).trans (HC.out k x hx)
      have HX := hidden hx
      have hxl := HXM.out x (List.mem_of_getElem? hx)
      clear hx
      by_cases hxe : x = []
      · subst hxe
        go_wp2_with fail
        go_ret
        exact ⟨rfl, hbl.out⟩
      · have hxb := bne_empty hxe
        have HXE := hidden hxe
        clear hxe
        by_cases hx20 : 20 < x.length
        · go_wp2_with fail
          go_ret
          exact ⟨rfl, hbl.out⟩
        · go_wp2_with fail
          refine (cuts_any ⟨x.toArray⟩ 47 _ (by show x.length ≤ _; omega)).mono ?_
          rintro e w2 ⟨vc, rfl, hrc, hb2⟩
          obtain ⟨aoc, capc, rfl⟩ := hrc.shape
          have HB2 := hidden (hbl.out.trans (hb2.mono hbl.out.size))
          rw [show (⟨x.toArray⟩ : ByteArray).data.toList = x from rfl]
          by_cases hone : (cuts 47 x).length = 1
          · have hcx2 : w2.cell? ⟨b, o + k, none⟩ = some (.string ⟨x.toArray⟩) := (HB2.out.cell (p := ⟨b, o + k, none⟩) hb).trans (HC.out k x HX.out)
            have HG := hidden (show ∀ j, j < k + 1 → Good xs j from fun j hj => by
              by_cases hjk : j = k
              · rw [hjk, Good, getD_of HX.out]
                exact ⟨HXE.out, by omega, cuts_one 47 x hone⟩
              · exact hgood.out j (by omega))
            have hlenT := bld_len xs zs k (fun j hj => (hgood.out j hj).2.1)
            have hno1 : ¬ 9223372036854775807 < (bld xs zs k).length + x.length := by omega
            rw [hone]
            clear hrc hb2 hcx hone hgood hbl
            have happ := app_text (bld xs zs k) x
            by_cases hk1 : k + 1 < xs.length
            · obtain ⟨z, hz⟩ : ∃ z, zs[k + 1]? = some z := ⟨zs[k + 1]'(by omega), List.getElem?_eq_getElem _⟩
              have hcz : w2.cell? ⟨b', o' + (k + 1), none⟩ = some (.int .i64 z) := (HB2.out.cell (p := ⟨b', o' + (k + 1), none⟩) hb').trans (HC'.out (k + 1) z hz)
              obtain ⟨kz, hkz, hbitz⟩ : ∃ kz : Nat, kz ≤ 1 ∧ bits BinOp.and IntKind.i64 z 1 = (kz : Int) := by
                rcases bit_is z with h | h
                · exact ⟨0, by omega, h⟩
                · exact ⟨1, by omega, h⟩
              have HBL := hidden (show bld xs zs (k + 1) = bld xs zs k ++ x ++ List.replicate (kz + 1) 47 by
                rw [bld, getD_of HX.out, if_pos hk1, slash, getD_of (d := 0) hz, hbitz, Int.toNat_natCast, Nat.add_comm 1 kz])
              have HSL := hidden (slashes (kz + 1) (by omega))
              have hno2 : ¬ 9223372036854775807 < (bld xs zs k).length + x.length + (kz + 1) := by omega
              clear hz
              have happ2 : (⟨(bld xs zs k ++ x).toArray⟩ : ByteArray) ++ (⟨#[47, 47, 47]⟩ : ByteArray).extract 0 (1 + kz) = ⟨(bld xs zs (k + 1)).toArray⟩ := by
                rw [HBL.out, Nat.add_comm 1 kz, HSL.out, app_text]
              go_wp2_with fail
              go_roundw
              case rel => exact ⟨k + 1, by go_num, by omega, rfl, HG, HB2⟩
              case measure => simp [intOf]; omega
            · have HBL := hidden (show bld xs zs (k + 1) = bld xs zs k ++ x by
                rw [bld, getD_of HX.out, if_neg hk1, List.append_nil])
              go_wp2_with fail
              go_roundw
              case rel => exact ⟨k + 1, by go_num, by omega, by rw [HBL.out], HG, HB2⟩
              case measure => simp [intOf]; omega
          · have hnb : (((cuts 47 x).length : Int) != 1) = true := by simp; omega
            go_wp2_with fail
            go_ret
            exact ⟨rfl, HB2.out⟩
    · have hkeq : k = xs.length := by omega
      have hG : ∀ j, j < xs.length → (xs.getD j []) ≠ [] ∧ ∀ x, x ∈ xs.getD j [] → x ≠ 47 := fun j hj => by
        have := hgood.out j (by omega)
        exact ⟨this.1, this.2.2⟩
      have HPT := hidden (bld_all xs zs h1 hG)
      have HPS := hidden (bld_strip xs zs h1 hG)
      have HBS := hidden (base_bld xs zs h1 hG)
      have hlenT := bld_len xs zs k (fun j hj => (hgood.out j hj).2.1)
      rw [hkeq] at hlenT ⊢
      clear hG hgood hkeq hk hkn
      generalize bld xs zs xs.length = T at *
      have hcr0 : wr.cell? ⟨b', o', none⟩ = some (.int .i64 z0) := (hbl.out.cell (p := ⟨b', o' + 0, none⟩) hb').trans HC0.out
      rcases Nat.lt_or_ge k0 1 with h0 | h0
      · obtain rfl : k0 = 0 := by omega
        by_cases hn1 : xs.length = 1
        · have HW := hidden (show wanted xs zs = xs by rw [wanted, if_neg (fun hh => hh.2 hn1)])
          have hn1b : ((xs.length : Int) == 1) = true := by rw [beq_iff_eq]; omega
          clear hn1
          go_upto_region 18 with fail
          generalize (if cap = 1 then some (⟨b, o, none⟩ : Addr) else some ⟨b, o + 1, none⟩) = qq
          obtain ⟨m, hm⟩ : ∃ m, xs.length = m + 1 := ⟨xs.length - 1, by omega⟩
          have hK : K w (.slice (some ⟨b, o, none⟩) (m + 1) cap) (.slice (some ⟨b, o, none⟩) (m + 1) cap) xs (wanted xs zs) wr := ⟨HE.out.on hbl.out, hbl.out, by rw [← hm]; exact HR.out.later hbl.out, by rw [HW.out]; rw [← hm]; exact HR.out.later hbl.out⟩
          have HBS2 := hidden (show base T = xs.getD m [] by rw [HBS.out, hm]; rfl)
          have HLast := hidden (show ∀ wz, K w (.slice (some ⟨b, o, none⟩) (m + 1) cap) (.slice (some ⟨b, o, none⟩) (m + 1) cap) xs (wanted xs zs) wz → wz.cell? ⟨b, o + m, none⟩ = some (.string ⟨(xs.getD m []).toArray⟩) from fun wz h => by
            rw [h.below.cell (p := ⟨b, o + m, none⟩) hb]
            exact HC.out m _ (by rw [List.getD_eq_getElem?_getD, List.getElem?_eq_getElem (by omega)]; rfl))
          have hTl : T.length ≤ 1048576 := by omega
          have hXl : (strip 1 T).length ≤ 1048576 := by
            obtain ⟨j, _, e⟩ := strip_suffix 1 T
            rw [e, List.length_drop]; omega
          generalize hXX : strip 1 T = X at *
          have HX1 := hidden hXX
          generalize xs.getD m [] = last at *
          have hwl : (wanted xs zs).length ≤ 1048576 := by rw [HW.out]; omega
          have hxl2 : xs.length ≤ 1048576 := by omega
          generalize wanted xs zs = ws at *
          have HK := hidden hK
          have hcapm : m + 1 ≤ cap := by omega
          have hm20 : m + 1 ≤ 20 := by omega
          have hI1 : IntKind.i64.wrap ((m : Int) + 1 - 1) = (m : Int) := by rw [IntKind.wrap_i64]; omega
          have hI2 : IntKind.i64.wrap (m : Int) = (m : Int) := by rw [IntKind.wrap_i64]; omega
          have hI3 : (m : Int) < (m : Int) + 1 := by omega
          have hI4 : (0 : Int) ≤ (m : Int) := by omega
          have hI5 : (m : Int) < ((m + 1 : Nat) : Int) := by omega
          have hI6 : (m : Int) + 1 - 1 = (m : Int) := by omega
          rw [hm]
          clear hm h1 h20 hlt hcap hn1b
          clear hXX HBS HC HC' HC0 hlenT hK HR HE HXM hcr0 hcell01 HB1 HW hbl hd1 hd2 hd3 hd4 HZ
          go_region_held3 (fun w' => w'.cell? ⟨b, o + m, none⟩ = some (.string ⟨last.toArray⟩) ∧ K w (.slice (some ⟨b, o, none⟩) (m + 1) cap) (.slice (some ⟨b, o, none⟩) (m + 1) cap) xs ws w') (first | exact ⟨HLast.out _ HK.out.drew, HK.out.drew⟩ | exact ⟨HLast.out _ (by assumption), by assumption⟩) (first
            | (go_at_call 11; refine (parts_kept (w := w) (L := .slice (some ⟨b, o, none⟩) (m + 1) cap) (W := (.slice (some ⟨b, o, none⟩) (m + 1) cap)) (xs := xs) (ws := ws) ?_ _ _ rfl ?_).mono ?_; (· (first | exact HK.out.drew | assumption)); (· (first | exact hTl | exact hXl)); rintro e w2 ⟨v2, rfl, hr2, hK2⟩)
            | (go_at_call 13; refine (base_kept (w := w) (L := .slice (some ⟨b, o, none⟩) (m + 1) cap) (W := (.slice (some ⟨b, o, none⟩) (m + 1) cap)) (xs := xs) (ws := ws) ?_ T last HBS2.out hTl).mono ?_; (· assumption); rintro e w4 ⟨rfl, hK4⟩)
            | (go_at_call 8; refine (strip_kept (w := w) (L := .slice (some ⟨b, o, none⟩) (m + 1) cap) (W := (.slice (some ⟨b, o, none⟩) (m + 1) cap)) (xs := xs) (ws := ws) ?_ T X HX1.out hTl).mono ?_; (· assumption); rintro e w5 ⟨rfl, hK5⟩)
            | (go_at_call 10; refine (same_kept (w := w) (L := .slice (some ⟨b, o, none⟩) (m + 1) cap) (W := (.slice (some ⟨b, o, none⟩) (m + 1) cap)) (xs := xs) (ws := ws) (by assumption) _ _ _ (by assumption) ?_ ?_).mono ?_; (· (first | (rw [HPT.out]; exact K.row (by assumption)) | (rw [HPS.out]; exact K.want (by assumption)))); (· (first | (rw [HPT.out]; exact hxl2) | (rw [HPS.out]; exact hwl))); rintro e w3 ⟨rfl, hK3⟩))
          go_wp2
          go_ret
          rename_i hHeld
          exact ⟨rfl, hHeld.2.below⟩
        · have HW := hidden (show wanted xs zs = xs.drop 1 by rw [wanted, if_pos ⟨by rw [HZ.out]; exact HBIT.out, hn1⟩])
          have hn1b : ((xs.length : Int) == 1) = false := by rw [beq_eq_false_iff_ne]; omega
          have hn2 : 2 ≤ xs.length := by omega
          have hcap1 : ¬ cap = 1 := by omega
          clear hn1
          go_upto_region 18 with fail
          obtain ⟨m, hm⟩ : ∃ m, xs.length = m + 1 := ⟨xs.length - 1, by omega⟩
          have hK : K w (.slice (some ⟨b, o, none⟩) (m + 1) cap) (.slice (some ⟨b, o + 1, none⟩) (m + 1 - 1) (cap - 1)) xs (wanted xs zs) wr := ⟨HE.out.on hbl.out, hbl.out, by rw [← hm]; exact HR.out.later hbl.out, by rw [HW.out]; rw [← hm]; exact (HR.out.later hbl.out).tail (by omega) hcap⟩
          have HBS2 := hidden (show base T = xs.getD m [] by rw [HBS.out, hm]; rfl)
          have HLast := hidden (show ∀ wz, K w (.slice (some ⟨b, o, none⟩) (m + 1) cap) (.slice (some ⟨b, o + 1, none⟩) (m + 1 - 1) (cap - 1)) xs (wanted xs zs) wz → wz.cell? ⟨b, o + m, none⟩ = some (.string ⟨(xs.getD m []).toArray⟩) from fun wz h => by
            rw [h.below.cell (p := ⟨b, o + m, none⟩) hb]
            exact HC.out m _ (by rw [List.getD_eq_getElem?_getD, List.getElem?_eq_getElem (by omega)]; rfl))
          have hTl : T.length ≤ 1048576 := by omega
          have hXl : (strip 1 T).length ≤ 1048576 := by
            obtain ⟨j, _, e⟩ := strip_suffix 1 T
            rw [e, List.length_drop]; omega
          generalize hXX : strip 1 T = X at *
          have HX1 := hidden hXX
          generalize xs.getD m [] = last at *
          have hwl : (wanted xs zs).length ≤ 1048576 := by rw [HW.out]; simp; omega
          have hxl2 : xs.length ≤ 1048576 := by omega
          generalize wanted xs zs = ws at *
          have HK := hidden hK
          have hcapm : m + 1 ≤ cap := by omega
          have hm20 : m + 1 ≤ 20 := by omega
          have hI1 : IntKind.i64.wrap ((m : Int) + 1 - 1) = (m : Int) := by rw [IntKind.wrap_i64]; omega
          have hI2 : IntKind.i64.wrap (m : Int) = (m : Int) := by rw [IntKind.wrap_i64]; omega
          have hI3 : (m : Int) < (m : Int) + 1 := by omega
          have hI4 : (0 : Int) ≤ (m : Int) := by omega
          have hI5 : (m : Int) < ((m + 1 : Nat) : Int) := by omega
          have hI6 : (m : Int) + 1 - 1 = (m : Int) := by omega
          rw [hm]
          clear hm h1 h20 hlt hcap hn1b hn2
          clear hXX HBS HC HC' HC0 hlenT hK HR HE HXM hcr0 hcell01 HB1 HW hbl hd1 hd2 hd3 hd4 HZ
          go_region_held3 (fun w' => w'.cell? ⟨b, o + m, none⟩ = some (.string ⟨last.toArray⟩) ∧ K w (.slice (some ⟨b, o, none⟩) (m + 1) cap) (.slice (some ⟨b, o + 1, none⟩) (m + 1 - 1) (cap - 1)) xs ws w') (first | exact ⟨HLast.out _ HK.out.drew, HK.out.drew⟩ | exact ⟨HLast.out _ (by assumption), by assumption⟩) (first
            | (go_at_call 11; refine (parts_kept (w := w) (L := .slice (some ⟨b, o, none⟩) (m + 1) cap) (W := (.slice (some ⟨b, o + 1, none⟩) (m + 1 - 1) (cap - 1))) (xs := xs) (ws := ws) ?_ _ _ rfl ?_).mono ?_; (· (first | exact HK.out.drew | assumption)); (· (first | exact hTl | exact hXl)); rintro e w2 ⟨v2, rfl, hr2, hK2⟩)
            | (go_at_call 13; refine (base_kept (w := w) (L := .slice (some ⟨b, o, none⟩) (m + 1) cap) (W := (.slice (some ⟨b, o + 1, none⟩) (m + 1 - 1) (cap - 1))) (xs := xs) (ws := ws) ?_ T last HBS2.out hTl).mono ?_; (· assumption); rintro e w4 ⟨rfl, hK4⟩)
            | (go_at_call 8; refine (strip_kept (w := w) (L := .slice (some ⟨b, o, none⟩) (m + 1) cap) (W := (.slice (some ⟨b, o + 1, none⟩) (m + 1 - 1) (cap - 1))) (xs := xs) (ws := ws) ?_ T X HX1.out hTl).mono ?_; (· assumption); rintro e w5 ⟨rfl, hK5⟩)
            | (go_at_call 10; refine (same_kept (w := w) (L := .slice (some ⟨b, o, none⟩) (m + 1) cap) (W := (.slice (some ⟨b, o + 1, none⟩) (m + 1 - 1) (cap - 1))) (xs := xs) (ws := ws) (by assumption) _ _ _ (by assumption) ?_ ?_).mono ?_; (· (first | (rw [HPT.out]; exact K.row (by assumption)) | (rw [HPS.out]; exact K.want (by assumption)))); (· (first | (rw [HPT.out]; exact hxl2) | (rw [HPS.out]; exact hwl))); rintro e w3 ⟨rfl, hK3⟩))
          go_wp2
          go_ret
          rename_i hHeld
          exact ⟨rfl, hHeld.2.below⟩
      · obtain rfl : k0 = 1 := by omega
        have HW := hidden (show wanted xs zs = xs by rw [wanted, if_neg (fun hh => by have := hh.1; rw [HZ.out, HBIT.out] at this; exact absurd this (by decide))])
        go_upto_region 18 with fail
        obtain ⟨m, hm⟩ : ∃ m, xs.length = m + 1 := ⟨xs.length - 1, by omega⟩
        have hK : K w (.slice (some ⟨b, o, none⟩) (m + 1) cap) (.slice (some ⟨b, o, none⟩) (m + 1) cap) xs (wanted xs zs) wr := ⟨HE.out.on hbl.out, hbl.out, by rw [← hm]; exact HR.out.later hbl.out, by rw [HW.out]; rw [← hm]; exact HR.out.later hbl.out⟩
        have HBS2 := hidden (show base T = xs.getD m [] by rw [HBS.out, hm]; rfl)
        have HLast := hidden (show ∀ wz, K w (.slice (some ⟨b, o, none⟩) (m + 1) cap) (.slice (some ⟨b, o, none⟩) (m + 1) cap) xs (wanted xs zs) wz → wz.cell? ⟨b, o + m, none⟩ = some (.string ⟨(xs.getD m []).toArray⟩) from fun wz h => by
          rw [h.below.cell (p := ⟨b, o + m, none⟩) hb]
          exact HC.out m _ (by rw [List.getD_eq_getElem?_getD, List.getElem?_eq_getElem (by omega)]; rfl))
        have hTl : T.length ≤ 1048576 := by omega
        have hXl : (strip 1 T).length ≤ 1048576 := by
          obtain ⟨j, _, e⟩ := strip_suffix 1 T
          rw [e, List.length_drop]; omega
        generalize hXX : strip 1 T = X at *
        have HX1 := hidden hXX
        generalize xs.getD m [] = last at *
        have hwl : (wanted xs zs).length ≤ 1048576 := by rw [HW.out]; omega
        have hxl2 : xs.length ≤ 1048576 := by omega
        generalize wanted xs zs = ws at *
        have HK := hidden hK
        have hcapm : m + 1 ≤ cap := by omega
        have hm20 : m + 1 ≤ 20 := by omega
        have hI1 : IntKind.i64.wrap ((m : Int) + 1 - 1) = (m : Int) := by rw [IntKind.wrap_i64]; omega
        have hI2 : IntKind.i64.wrap (m : Int) = (m : Int) := by rw [IntKind.wrap_i64]; omega
        have hI3 : (m : Int) < (m : Int) + 1 := by omega
        have hI4 : (0 : Int) ≤ (m : Int) := by omega
        have hI5 : (m : Int) < ((m + 1 : Nat) : Int) := by omega
        have hI6 : (m : Int) + 1 - 1 = (m : Int) := by omega
        rw [hm]
        clear hm h1 h20 hlt hcap 
        clear hXX HBS HC HC' HC0 hlenT hK HR HE HXM hcr0 hcell01 HB1 HW hbl hd1 hd2 hd3 hd4 HZ
        go_region_held3 (fun w' => w'.cell? ⟨b, o + m, none⟩ = some (.string ⟨last.toArray⟩) ∧ K w (.slice (some ⟨b, o, none⟩) (m + 1) cap) (.slice (some ⟨b, o, none⟩) (m + 1) cap) xs ws w') (first | exact ⟨HLast.out _ HK.out.drew, HK.out.drew⟩ | exact ⟨HLast.out _ (by assumption), by assumption⟩) (first
          | (go_at_call 11; refine (parts_kept (w := w) (L := .slice (some ⟨b, o, none⟩) (m + 1) cap) (W := (.slice (some ⟨b, o, none⟩) (m + 1) cap)) (xs := xs) (ws := ws) ?_ _ _ rfl ?_).mono ?_; (· (first | exact HK.out.drew | assumption)); (· (first | exact hTl | exact hXl)); rintro e w2 ⟨v2, rfl, hr2, hK2⟩)
          | (go_at_call 13; refine (base_kept (w := w) (L := .slice (some ⟨b, o, none⟩) (m + 1) cap) (W := (.slice (some ⟨b, o, none⟩) (m + 1) cap)) (xs := xs) (ws := ws) ?_ T last HBS2.out hTl).mono ?_; (· assumption); rintro e w4 ⟨rfl, hK4⟩)
          | (go_at_call 8; refine (strip_kept (w := w) (L := .slice (some ⟨b, o, none⟩) (m + 1) cap) (W := (.slice (some ⟨b, o, none⟩) (m + 1) cap)) (xs := xs) (ws := ws) ?_ T X HX1.out hTl).mono ?_; (· assumption); rintro e w5 ⟨rfl, hK5⟩)
          | (go_at_call 10; refine (same_kept (w := w) (L := .slice (some ⟨b, o, none⟩) (m + 1) cap) (W := (.slice (some ⟨b, o, none⟩) (m + 1) cap)) (xs := xs) (ws := ws) (by assumption) _ _ _ (by assumption) ?_ ?_).mono ?_; (· (first | (rw [HPT.out]; exact K.row (by assumption)) | (rw [HPS.out]; exact K.want (by assumption)))); (· (first | (rw [HPT.out]; exact hxl2) | (rw [HPS.out]; exact hwl))); rintro e w3 ⟨rfl, hK3⟩))
        go_wp2
        go_ret
        rename_i hHeld
        exact ⟨rfl, hHeld.2.below⟩

theorem pathsParts_any (v u : Value) (xs : List (List UInt8)) (zs : List Int) (w : World) (he : Env w) (hr : RowAt w v xs) (hq : IntsAt w u zs) (hxl : xs.length ≤ 9223372036854775807) (hzl : zs.length ≤ 9223372036854775807) (hxm : ∀ x, x ∈ xs → x.length ≤ 9223372036854775807) :
    Calls Tryd.prog 5 #[v, u] w fun e w' => e = .returned (.bool true) ∧ Below w.heap.size w w' := by
  by_cases hout : xs.length < 1 ∨ 20 < xs.length ∨ zs.length ≤ xs.length
  · exact pathsParts_out v u xs zs w he hr hq hxl hout
  · exact pathsParts_in v u xs zs w he hr hq (by omega) (by omega) (by omega) hzl hxm

end Go.Proofs.YtpgcdjoghcibiaaDoor
