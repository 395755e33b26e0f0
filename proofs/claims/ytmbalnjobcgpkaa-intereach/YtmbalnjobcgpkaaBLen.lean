
/-
  What the program's Len answers at any two rows of lines: how long the longest common row is; conditions: how many lines there are, and that they can lie in memory.
-/
import Derived.Test.YtmbalnjobcgpkaaBCom
import Derived.Laws.Small
import Derived.Deep.LoopGhost
import Derived.BigQuiet
import Derived.Test.YtmbalnjobcgpkaaAPDo
namespace Go.Proofs.Ytmbalnjobcgpkaa
open Go.RowKit Go.Deep Go.Proofs.Ytmbalnjobcgpkaa.Ln Go.Proofs.Ytmbalnjobcgpkaa.Ol

/-- enough changes -/
def Enough (xs ys : List Tx) (wd : Nat) : Prop := (xs.length : Int) + ys.length - 2 * dd (bnd (mtL xs ys) (nearL xs.length ys.length wd)) xs.length ys.length ≤ wd
/-- the table at a rest, and with how many changes it goes -/
structure WK (w : World) (T : Nat) (xs ys d : List Tx) (v0 : Value) (a1 : Option Addr) (c1 : Nat) (vm : Nat → Value) (wsf : Nat → List Nat) (gf : Nat → Bs) (wd : Nat) (W : World) : Prop where
  bel : Below w.heap.size w W
  env : Env (mkC T xs ys d v0 a1 c1 vm wsf gf wd) W
  tb : ∃ at_ vI vT vS V N L S, Tb T T ((xs.length : Int) - ys.length) wd (8 * (xs.length : Int)) v0 (.slice a1 ys.length c1) at_ vI vT vS V N L S W
theorem wk_start {w : World} {T mb : Nat} {xs ys d : List Tx} {D : DataW Unit} {v0 : Value} {a1 : Option Addr} {c1 : Nat} {vm : Nat → Value} {wsf : Nat → List Nat} {gf : Nat → Bs} {W : World} (hb : Below w.heap.size w W) (hT : w.heap.size ≤ T) (h : SK T mb xs.length (d.length + 1) ((xs.length : Int) - ys.length) (8 * (xs.length : Int)) d D v0 vm wsf gf ys ys.length (.slice a1 ys.length c1) W) (wd : Nat) :
    WK w T xs ys d v0 a1 c1 vm wsf gf wd (W.setCell ⟨T, 3, none⟩ (.int .i64 wd)).drew :=
  ⟨(bel_set hb hT).drew, (mkC_env h wd).kpt h.kr.tc ((KpT.refl (B := T) (T := T) (W := W)).setT 3 _).drew, 0, _, _, _, _, _, _, _, (tb_new h wd).drew⟩
theorem wk_next {w : World} {T : Nat} {xs ys d : List Tx} {v0 : Value} {a1 : Option Addr} {c1 : Nat} {vm : Nat → Value} {wsf : Nat → List Nat} {gf : Nat → Bs} {W : World} {wd : Nat} (hb : Below w.heap.size w W) (hT : w.heap.size ≤ T) (he : Env (mkC T xs ys d v0 a1 c1 vm wsf gf wd) W) {at_ : Nat} {vI vT vS : Value} {V : Bs} {N : Nat} {L : List Tn} {S : List Sp}
    (h : Tb T T ((xs.length : Int) - ys.length) wd (8 * (xs.length : Int)) v0 (.slice a1 ys.length c1) at_ vI vT vS V N L S W) (wd' : Nat) {z : Int} (hz : z = wd') : WK w T xs ys d v0 a1 c1 vm wsf gf wd' (W.setCell ⟨T, 3, none⟩ (.int .i64 z)) := by
  subst hz
  exact ⟨bel_set hb hT, env_wide (he.kpt h.c ((KpT.refl (B := T) (T := T) (W := W)).setT 3 _)) wd', at_, _, _, _, _, _, _, _, tb_wide h wd'⟩
theorem below_row {B B' size n : Nat} {w W W' : World} {e : TypeId} {v : Value} {xs : List Value} (hb : Below B w W) (hs : B ≤ W.heap.size) (ho : W.ownsRow B' e size v n xs) (hB : B ≤ B') (hg : W.grownBy W' v.ownBlock) : Below B w W' :=
  hb.trans ⟨hg.os, hg.tape, hg.output, hg.size, fun k hk => hg.block k (by omega) (fun e => by have := (own_kind ho e.symm).1; omega)⟩
set_option maxHeartbeats 8000000 in
theorem bcommon_any (v u : Value) (xs ys : List Tx) (w : World) (hA : RowAt w v xs) (hB : RowAt w u ys) (hla : xs.length ≤ 4294967296) (hlb : ys.length ≤ 4294967296) (hfa : FitT xs) (hfb : FitT ys) :
    Calls Try.prog 60 #[v, u] w fun e w' => ∃ (c : Cx) (wd : Nat), e = .returned (.pointer (some ⟨c.T, 0, none⟩)) ∧ Good c ∧ c.m = ys.length ∧ c.D = DL xs ys wd ∧ Enough xs ys wd ∧ St c (c.mo + c.Nb) 0 w' ∧ c.B = w.heap.size ∧ Below w.heap.size w w' := by
  have HA := hidden hA
  obtain ⟨ao, cap, rfl, hca⟩ := hA.open_
  obtain ⟨bo, cap2, rfl, hcb⟩ := hB.open_
  have HAO := hidden (show xs = [] ∨ ∀ ad, ao = some ad → ad.block < w.heap.size by
    by_cases e : xs = []
    · exact Or.inl e
    · refine Or.inr fun ad had => ?_
      obtain ⟨x, hx⟩ : ∃ x, xs[0]? = some x := ⟨_, List.getElem?_eq_getElem (List.length_pos_iff.2 e)⟩
      obtain ⟨b, o, h1, _, h2, _⟩ := hca 0 x hx
      rw [had] at h1
      cases h1
      exact h2)
  obtain ⟨n, hn⟩ : ∃ n, xs.length = n := ⟨_, rfl⟩
  obtain ⟨m, hm⟩ : ∃ m, ys.length = m := ⟨_, rfl⟩
  rw [hn] at hla HA
  rw [hm] at hlb hcb
  rw [hn, hm]
  have HN := hidden hn
  have HM := hidden hm
  have HCB := hidden hcb
  have HFA := hidden hfa
  have HFB := hidden hfb
  clear hA hB hca hcb hn hm hfa hfb
  obtain ⟨T, hT⟩ : ∃ T, w.heap.size = T := ⟨_, rfl⟩
  have HT := hidden hT
  obtain ⟨ah, hah⟩ : ∃ z : Int, (n : Int) - m = z := ⟨_, rfl⟩
  have hab : -4294967296 ≤ ah ∧ ah ≤ 4294967296 := by omega
  go_enter Try.func60, Try.ntmps60
  go_wp2_with fail
  obtain ⟨W0, hW0⟩ : ∃ W0, w.alloc (.cells #[.slice none 0 0, .slice none 0 0, .int .i64 ah, .int .i64 0, .int .i64 0, .slice none 0 0, .slice none 0 0, .int .i64 (8 * n), .slice none 0 0] 88) = W0 := ⟨_, rfl⟩
  have h0c : TbC W0 T (.slice none 0 0) (.slice none 0 0) (Z ah) (Z 0) (Z 0) (.slice none 0 0) (.slice none 0 0) (Z (8 * n)) (.slice none 0 0) := by
    rw [← hW0, ← hT]; exact World.alloc_heap_new w _
  have h0b : Below w.heap.size w W0 := by rw [← hW0]; exact bel_alloc (Below.refl _ _) _
  have h0s : W0.heap.size = T + 1 := by rw [← hW0]; simp [hT]
  have HKN := bknow_any T ao n cap xs (.slice none 0 0) (Z ah) (Z 0) (Z 0) (.slice none 0 0) (.slice none 0 0) (Z (8 * n)) (.slice none 0 0) W0 h0c (HA.out.later h0b) (by rw [← hT]; exact HAO.out) HN.out hla HFA.out
  rw [hW0]
  clear hW0 h0c
  refine HKN.mono ?_
  clear HKN
  rintro e w1 ⟨mb, d, v0, vm, wsf, gf, D, rfl, hmb, hkm, hkr, hkp, hkt⟩
  rw [h0s] at hkr hkt
  have HKP := hidden hkp
  have HS0 := hidden (show SK T mb n (d.length + 1) ah (8 * n) d D v0 vm wsf gf ys 0 (.slice none 0 0) w1 ∧ Below w.heap.size w w1 from
    ⟨⟨hkr, hkm, World.ownsRow_nil _ _ _ _⟩, KpT.below h0b (⟨hkt.os, hkt.tape, hkt.output, hkt.size, fun k hk hne hf => hkt.block k hk hne (hf.imp (fun h => by omega) id)⟩ : KpT w.heap.size T W0 w1) (by omega) (by omega)⟩)
  obtain ⟨KK, hKK⟩ : ∃ K, d.length + 1 = K := ⟨_, rfl⟩
  rw [hKK] at HS0
  have HKK := hidden hKK
  clear hkm hkr hkp hkt h0b h0s hmb hKK HA HAO
  go_wp2_with fail
  go_loopw [24] (fun s wr => ∃ (k : Nat) (v1 : Value), k ≤ m ∧ s = .int .i64 k ∧ Hid (SK T mb n KK ah (8 * n) d D v0 vm wsf gf ys k v1 wr ∧ Below w.heap.size w wr)) (fun s _ => m - (intOf s).toNat)
  case atStart => exact ⟨0, _, Nat.zero_le _, rfl, HS0.out⟩
  case round =>
    obtain ⟨k, v1, hkm, rfl, hsk⟩ := hrel
    clear HS0
    obtain ⟨a1, c1, rfl, hc1, ha1⟩ := own_shape hsk.out.1.srt
    by_cases hlt : k < m
    · obtain ⟨y, hy⟩ : ∃ y, ys[k]? = some y := ⟨ys[k]'(by rw [HM.out]; exact hlt), List.getElem?_eq_getElem _⟩
      obtain ⟨b2, o2, hbo, hcp2, hb2, cy⟩ := HCB.out k y hy
      subst hbo
      have cy2 := (hsk.out.2.cell (p := ⟨b2, o2 + k, none⟩) hb2).trans cy
      have hyf := HFB.out y (List.mem_of_getElem? hy)
      have hkey : keyOf Try.prog 9 (.string ⟨y.toArray⟩) = some (.string y) := Go.WideMaps.keyOf_string_mk Try.underlying9 (by show y.toArray.size ≤ maxLen; simp; unfold maxLen; omega)
      have hbd : Below wr.heap.size wr wr.drew := (Below.refl _ wr).drew
      have hskd := hsk.out.1.later hbd
      have hown := hskd.km.own
      obtain ⟨cz, hrun, hat, _⟩ := hown.lookup_int lawStr Try.underlying89 Try.underlying3 (zeroInt _) hkey
      clear hown hskd hbd
      have hcz : cz = sidx d y := by rw [hsk.out.1.km.at_ y] at hat; clear hab; simpa using hat.symm
      subst hcz
      have i1 := hsk.out.1.kr.tc.cells.2.1
      have i1a : ∀ o, (wr.alloc o).cell? ⟨T, 1, none⟩ = some (.slice a1 k c1) := fun o => ((hsk.out.1.kr.tc).alloc o).cells.2.1
      have HY := hidden hy
      have HSK := hidden hsk.out.1
      have HBW := hidden hsk.out.2
      have HBL := hidden (Below.refl wr.heap.size wr)
      have HBs := hidden (show T + 1 ≤ wr.heap.size from hsk.out.1.kr.tc.lt)
      clear hsk hy cy hat hkey hyf
      go_wp2_with fail
      go_region_law (refine step_app rfl (.tmp 32) (.tmp 36) 76 3 rfl (.int .i64 0) 1 8 Try.underlying76 Try.infoInt rfl (by decide) (T + 1) wr.heap.size (.slice a1 k c1) k ((List.range k).map fun j => Z (sidx d (ys.getD j []))) [Z (sidx d y)] (by first | rfl | simp [Act.eval, Act.put]) (by first | rfl | simp [Act.eval, Act.put]) (owns_later HSK.out.srt (by (with_reducible (repeat (first | exact HBL.out | exact Below.refl _ _ | apply bel_alloc | apply bel_put | apply bel_set | apply Below.drew | apply below_drewN | assumption | omega))))) rfl (fun u hu => by rw [List.mem_singleton.1 hu]; rfl) ?_ (by omega) (by decide) (Nat.le_trans HBs.out (by simp)) ?_; (first | exact cells_new wr _ _ rfl _ | exact cells_new _ _ _ (by simp) _); intro g9 c9 w9 hown9 hg9 hl9; have HC9 := hidden (TbC.grown (HSK.out.kr.tc.later (by (with_reducible (repeat (first | exact HBL.out | exact Below.refl _ _ | apply bel_alloc | apply bel_put | apply bel_set | apply Below.drew | apply below_drewN | assumption | omega))))) (owns_later HSK.out.srt (by (with_reducible (repeat (first | exact HBL.out | exact Below.refl _ _ | apply bel_alloc | apply bel_put | apply bel_set | apply Below.drew | apply below_drewN | assumption | omega))))) (by decide) hg9); have tf9 : w9.frozen? ⟨T, 1, none⟩ = false := HC9.out.thaw 1; have tc9 : w9.cell? ⟨T, 1, none⟩ = some (.slice a1 k c1) := HC9.out.cells.2.1)
      all_goals
        have HS9 := hidden ((HSK.out.later (by (with_reducible (repeat (first | exact HBL.out | exact Below.refl _ _ | apply bel_alloc | apply bel_put | apply bel_set | apply Below.drew | apply below_drewN | assumption | omega))))).more HY.out hown9 hg9)
        have HB9 := hidden (bel_set (u := .slice (some ⟨g9, 0, none⟩) (k + 1) c9) (i := 1) (b := T) (below_row (HBW.out.trans (Below.mono (by (with_reducible (repeat (first | exact HBL.out | exact Below.refl _ _ | apply bel_alloc | apply bel_put | apply bel_set | apply Below.drew | apply below_drewN | assumption | omega)))) HBW.out.size)) (Nat.le_trans (show w.heap.size ≤ T + 1 by omega) (Nat.le_trans HBs.out (by simp))) (owns_later HSK.out.srt (by (with_reducible (repeat (first | exact HBL.out | exact Below.refl _ _ | apply bel_alloc | apply bel_put | apply bel_set | apply Below.drew | apply below_drewN | assumption | omega))))) (by omega) hg9) (by omega))
        clear tf9 tc9 hown9 hg9 hl9 HC9 HSK HBW i1 i1a hrun
        go_wp2_with fail
        go_roundw
        case rel => exact ⟨k + 1, _, by omega, by go_num, HS9.out, HB9.out⟩
        case measure => simp [intOf]; omega
    · obtain rfl : k = m := by omega
      have HSK := hidden hsk.out.1
      have HBW := hidden hsk.out.2
      have i2 := hsk.out.1.kr.tc.cells.2.2.1
      have i3 := hsk.out.1.kr.tc.cells.2.2.2.1
      have if3 := hsk.out.1.kr.tc.thaw 3
      obtain ⟨wd0, hwd⟩ : ∃ q : Nat, max ah (-ah) + 64 = (q : Int) := ⟨(max ah (-ah) + 64).toNat, by omega⟩
      have hwdb : 64 ≤ wd0 ∧ wd0 ≤ 4294967360 := by omega
      have HWD := hidden hwd
      have hmx : max ah (-ah) ≤ 4294967296 ∧ 0 ≤ max ah (-ah) := by omega
      clear hsk
      go_wp2_with fail
      go_region
      have HW0 := hidden (show WK w T xs ys d v0 a1 c1 vm wsf gf wd0 (wr.setCell ⟨T, 3, none⟩ (.int .i64 wd0)).drew from by
        have hs := HSK.out
        rw [← hah, ← HKK.out, ← HN.out, ← HM.out] at hs
        rw [← HM.out] at *
        exact wk_start HBW.out (by omega) hs wd0)
      clear HSK HBW i2 i3 if3 HWD hwd hmx
      generalize World.drew _ = W5 at HW0 ⊢
      go_wp2_with fail
      go_loopg [] (n + k) (fun g wr => ∃ wd : Nat, 64 ≤ wd ∧ wd ≤ 4398046511104 ∧ n + k ≤ g + wd ∧ Hid (WK w T xs ys d v0 a1 c1 vm wsf gf wd wr))
      case atStart => exact ⟨wd0, by omega, by omega, by omega, HW0.out⟩
      case round =>
        obtain ⟨wd, hw1, hw2, hgk, hwk⟩ := hrel
        clear HW0
        have HWK := hidden hwk.out
        obtain ⟨at_, vI, vT, vS, V, N, L, S, hTb⟩ := hwk.out.tb
        have hG : Good (mkC T xs ys d v0 a1 c1 vm wsf gf wd) := mkC_good (by have := HKP.out; rw [← HN.out] at this; exact this) (by rw [HN.out]; exact hla) (by rw [HM.out]; exact hlb) (by omega)
        have HG := hidden hG
        have HTB := hidden hTb
        clear hwk hTb hG
        go_wp2_with fail
        refine (bbegin_any HTB.out).mono ?_
        rintro e w2 ⟨⟨e2, rfl⟩, hk2, vI2, vT2, vS2, hT2⟩
        have HS2 := hidden (st_begin (HWK.out.env.kpt HTB.out.c hk2) hT2 ((mkC T xs ys d v0 a1 c1 vm wsf gf wd).mo + (mkC T xs ys d v0 a1 c1 vm wsf gf wd).Nb) (by have := HG.out.mo; omega))
        have HB2 := hidden (KpT.below HWK.out.bel (⟨hk2.os, hk2.tape, hk2.output, hk2.size, fun k hk hne hf => hk2.block k hk hne (hf.imp (fun h => by omega) id)⟩ : KpT w.heap.size T _ w2) HWK.out.bel.size (by omega))
        clear HWK HTB hk2 hT2
        go_wp2_with fail
        refine (bgoto_any _ HG.out 0 _ (Nat.zero_le _) _ HS2.out).mono ?_
        rintro e w3 ⟨⟨e3, rfl⟩, hk3, hS3, _⟩
        have HB3 := hidden (KpT.below HB2.out (⟨hk3.os, hk3.tape, hk3.output, hk3.size, fun k hk hne hf => hk3.block k hk hne (hf.imp (fun h => by have h : k < w.heap.size := h; show k < T; omega) id)⟩ : KpT w.heap.size T _ w3) HB2.out.size (by omega))
        have HS3 := hidden hS3
        clear HS2 HB2 hk3 hS3
        obtain ⟨henv, _, vI3, vT3, vS3, N3, L3, S3, s3, hT3, hN3, _⟩ := HS3.out
        have HT3 := hidden hT3
        have hlg := long_dd (xs := xs) (ys := ys) (wd := wd) (N := N3) hT3.top
        obtain ⟨lg, hlgd⟩ : ∃ z, dd (bnd (mtL xs ys) (nearL xs.length ys.length wd)) xs.length ys.length = z := ⟨_, rfl⟩
        have hlb2 := long_le xs ys (nearL xs.length ys.length wd)
        rw [hlgd, HN.out, HM.out] at hlb2
        have HLG := hidden (fun (q : Nat) => show Calls Try.prog 74 #[.pointer (some ⟨T, 0, none⟩)] (w3.drewN q) fun e w' => e = .returned (.int .i64 lg) ∧ w' = w3.drewN q from (blong_any (HT3.out.drewN q) (by have := HG.out.nb; have : N3 ≤ _ := hN3; omega)).mono (fun e w' h => by rw [← hlgd, ← hlg]; exact h))
        have HLD := hidden hlgd
        have i3 : w3.cell? ⟨T, 3, none⟩ = some (.int .i64 wd) := hT3.c.cells.2.2.2.1
        have if3 : w3.frozen? ⟨T, 3, none⟩ = false := hT3.c.thaw 3
        clear hlg hlgd hT3 hN3 henv
        by_cases hfin : (n : Int) + k - 2 * lg ≤ wd
        · have hfd : decide ((n : Int) + k - 2 * lg ≤ wd) = true := decide_eq_true hfin
          go_wp2_with fail
          go_quiet ((go_at_call 74; exact Calls.quiet_of_same (HLG.out _)))
          go_wp2_with fail
          go_ret
          exact ⟨mkC T xs ys d v0 a1 c1 vm wsf gf wd, wd, rfl, HG.out, HM.out, rfl, by unfold Enough; rw [HLD.out, HN.out, HM.out]; exact hfin, HS3.out.later (below_drewN (Below.refl _ _) nq), by show T = w.heap.size; omega, below_drewN HB3.out nq⟩
        · have hfd : decide ((n : Int) + k - 2 * lg ≤ wd) = false := decide_eq_false hfin
          go_wp2_with fail
          go_quiet ((go_at_call 74; exact Calls.quiet_of_same (HLG.out _)))
          go_wp2_with fail
          have HNX := hidden (wk_next (below_drewN HB3.out nq) (by omega) (HS3.out.env.later (below_drewN (Below.refl _ _) nq)) (HT3.out.drewN nq) (wd * 4) (z := (wd : Int) * 4) (by omega))
          go_roundg (gk - 1)
          case measure => omega
          case rel => exact ⟨wd * 4, by omega, by omega, by omega, HNX.out⟩

end Go.Proofs.Ytmbalnjobcgpkaa

namespace Go.Proofs.Ytmbalnjobcgpkaa
open Go.RowKit Go.Deep Go.Proofs.Ytmbalnjobcgpkaa.Ln Go.Proofs.Ytmbalnjobcgpkaa.Ol

theorem FitT.drop {xs : List Tx} (h : FitT xs) (k : Nat) : FitT (xs.drop k) := fun x hx => h x (List.mem_of_mem_drop hx)
/-- what the table tells of the whole -/
theorem long_any {c : Cx} {xs ys : List Tx} {wd : Nat} {W : World} (hG : Good c) (hD : c.D = DL xs ys wd) (he : Enough xs ys wd) (h : St c (c.mo + c.Nb) 0 W) : Calls Try.prog 74 #[.pointer (some ⟨c.T, 0, none⟩)] W fun e w' => e = .returned (.int .i64 (lc xs ys)) ∧ w' = W := by
  obtain ⟨_, _, vI, vT, vS, N, L, S, s, hT, hN, _⟩ := h
  rw [hD] at hT
  refine (blong_any hT (Nat.le_trans hN hG.nb)).mono fun e w' h => ?_
  rw [← long_lc he, ← long_dd hT.top]
  exact h
end Go.Proofs.Ytmbalnjobcgpkaa
