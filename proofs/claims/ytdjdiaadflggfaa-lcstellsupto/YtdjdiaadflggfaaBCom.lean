
/-
  The program's table while the other row's lines are told their sorts, and where it goes over them; conditions: how many lines there are.
-/
import Derived.Test.YtdjdiaadflggfaaBKnow
import Derived.Test.YtdjdiaadflggfaaBBegin
import Derived.Test.YtdjdiaadflggfaaBGo
import Derived.Test.YtdjdiaadflggfaaBLong
import Derived.Test.YtdjdiaadflggfaaBAlike
namespace Go.Proofs.Ytdjdiaadflggfaa
open Go.RowKit Go.Proofs.Ytdjdiaadflggfaa.Ln Go.Proofs.Ytdjdiaadflggfaa.Ol

theorem own_base {W : World} {B B' size n : Nat} {e : TypeId} {v : Value} {xs : List Value} (h : W.ownsRow B e size v n xs) (hb : B' ≤ B) : W.ownsRow B' e size v n xs :=
  ⟨h.1, h.2.imp id fun ⟨g, cap, cur, h1, h2, h3⟩ => ⟨g, cap, cur, h1, Nat.le_trans hb h2, h3⟩⟩
/-- while the other row's lines are told their sorts -/
structure SK (T mb n K : Nat) (ah mo : Int) (d : List Tx) (D : DataW Unit) (v0 : Value) (vm : Nat → Value) (wsf : Nat → List Nat) (gf : Nat → Bs) (ys : List Tx) (k : Nat) (v1 : Value) (W : World) : Prop where
  kr : KR (T + 1) T K v0 v1 (Z ah) (Z 0) (Z 0) (.slice none 0 0) (.slice none 0 0) (Z mo) (.slice none 0 0) vm wsf gf W
  km : KM mb n d D W
  srt : W.ownsRow (T + 1) 3 1 v1 k ((List.range k).map fun j => Z (sidx d (ys.getD j [])))
section
variable {T mb n K : Nat} {ah mo : Int} {d : List Tx} {D : DataW Unit} {v0 : Value} {vm : Nat → Value} {wsf : Nat → List Nat} {gf : Nat → Bs} {ys : List Tx} {k : Nat} {v1 : Value} {W W' : World}
theorem SK.later (h : SK T mb n K ah mo d D v0 vm wsf gf ys k v1 W) (hb : Below W.heap.size W W') : SK T mb n K ah mo d D v0 vm wsf gf ys k v1 W' :=
  ⟨h.kr.later hb, km_stay h.km (fun _ _ he => by rw [hb.block mb (Array.getElem?_eq_some_iff.1 he).1]; exact he), owns_later h.srt hb⟩
theorem SK.more (h : SK T mb n K ah mo d D v0 vm wsf gf ys k v1 W) {g9 c9 : Nat} {x : Tx} (hx : ys[k]? = some x) {W9 : World} (ho : W9.ownsRow (T + 1) 3 1 (.slice (some ⟨g9, 0, none⟩) (k + 1) c9) (k + 1) ((List.range k).map (fun j => Z (sidx d (ys.getD j []))) ++ [Z (sidx d x)])) (hg : W.grownBy W9 v1.ownBlock) :
    SK T mb n K ah mo d D v0 vm wsf gf ys (k + 1) (.slice (some ⟨g9, 0, none⟩) (k + 1) c9) (W9.setCell ⟨T, 1, none⟩ (.slice (some ⟨g9, 0, none⟩) (k + 1) c9)) := by
  have hc := h.kr.tc.grown h.srt (by decide) hg
  refine ⟨⟨hc.set1 _, h.kr.tlt, rowT_keep hc (h.kr.top.kept hg (own_ne h.kr.top h.srt (by decide))) (by decide) 1 _, fun s hs => rowT_keep hc ((h.kr.own s hs).kept hg (own_ne (h.kr.own s hs) h.srt (by decide))) (by decide) 1 _, h.kr.apart⟩, km_stay h.km (fun es cl he => ?_), rowT_keep hc ?_ (by decide) 1 _⟩
  · rw [heap_setCell_ne _ _ _ _ _ (map_notT h.km h.kr.tc), hg.block mb (Array.getElem?_eq_some_iff.1 he).1 (map_notrow h.km h.srt)]
    exact he
  · rw [List.range_succ, List.map_append]
    have e : ys.getD k [] = x := by rw [List.getD_eq_getElem?_getD, hx]; rfl
    rw [List.map_cons, List.map_nil, e]
    exact ho
end
/-- all that is fixed, at so many changes -/
def mkC (T : Nat) (xs ys d : List Tx) (v0 : Value) (a1 : Option Addr) (c1 : Nat) (vm : Nat → Value) (wsf : Nat → List Nat) (gf : Nat → Bs) (wd : Nat) : Cx :=
  { B := T, T := T, ah := (xs.length : Int) - ys.length, wd := wd, mo := 8 * (xs.length : Int), v0 := v0, a1 := a1, c1 := c1, K := d.length + 1, m := ys.length, Nb := xs.length / 64 + 1, srt := fun j => sidx d (ys.getD j []), vm := vm, wsf := wsf, gf := gf, D := DL xs ys wd, crf := fun j => cb (bnd (mtL xs ys) (nearL xs.length ys.length wd)) (ys.length - 1 - j) }
theorem DL_full (xs ys : List Tx) (wd : Nat) : DL xs ys wd ys.length = fullB := by
  funext p
  unfold DL
  rw [Nat.sub_self, idl_zero]; rfl
theorem mkC_good {T : Nat} {xs ys d : List Tx} {v0 : Value} {a1 : Option Addr} {c1 : Nat} {vm : Nat → Value} {wsf : Nat → List Nat} {gf : Nat → Bs} {wd : Nat} (hp : KP xs xs.length xs.length d wsf gf) (hn : xs.length ≤ 1048576) (hm : ys.length ≤ 1048576) (hw : wd ≤ 1099511627776) : Good (mkC T xs ys d v0 a1 c1 vm wsf gf wd) := by
  refine ⟨hm, by show xs.length / 64 + 1 ≤ _; omega, ?_, ?_, ?_, fun j _ => ?_, fun j hj => ?_, fun p => ?_, fun s hs => ?_⟩
  · show -1073741824 ≤ (xs.length : Int) - ys.length ∧ (xs.length : Int) - ys.length ≤ 1073741824
    omega
  · show 0 ≤ (wd : Int) ∧ (wd : Int) ≤ 1099511627776
    omega
  · show 0 ≤ 8 * (xs.length : Int) ∧ 8 * (xs.length : Int) ≤ 16777216
    omega
  · show sidx d _ < d.length + 1
    have := sidx_le d (ys.getD j [])
    omega
  · have hj : j < ys.length := hj
    have h := rp_idl (bnd (mtL xs ys) (nearL xs.length ys.length wd)) (ys.length - 1 - j)
    have e1 : ys.length - 1 - j = ys.length - (j + 1) := by omega
    have e2 : ys.length - (j + 1) + 1 = ys.length - j := by omega
    have e3 : (mkC T xs ys d v0 a1 c1 vm wsf gf wd).gb j = fun i => bnd (mtL xs ys) (nearL xs.length ys.length wd) i (ys.length - 1 - j) := by
      funext p
      obtain ⟨y, hy⟩ : ∃ y, ys[j]? = some y := ⟨ys[j], List.getElem?_eq_getElem hj⟩
      have ey : ys.getD j [] = y := by rw [List.getD_eq_getElem?_getD, hy]; rfl
      have ec : ((ys.length - 1 - j : Nat) : Int) = (ys.length : Int) - 1 - j := by omega
      unfold Cx.gb bnd nearL
      show (gf (sidx d (ys.getD j [])) p && decide (loW ((ys.length : Int) - 1 - j) ((xs.length : Int) - ys.length) wd ≤ ((p / 64 : Nat) : Int) ∧ ((p / 64 : Nat) : Int) < hiW ((ys.length : Int) - 1 - j) ((xs.length : Int) - ys.length) wd)) = _
      rw [ey, marks_mt hp hy, ec]
    show Rp (DL xs ys wd (j + 1)) _ (DL xs ys wd j) (cb _ (ys.length - 1 - j))
    rw [e3]
    unfold DL
    rw [← e2, ← e1]
    exact h
  · show DL xs ys wd ys.length p = true
    rw [DL_full]; rfl
  · have h := hp.mks s hs
    refine ⟨h.up, fun x hx => ?_, fun p hq => (h.all p hq).2⟩
    show x < xs.length / 64 + 1
    have := h.low x hx
    omega
theorem mkC_env {T mb : Nat} {xs ys d : List Tx} {D : DataW Unit} {ah mo : Int} {v0 : Value} {a1 : Option Addr} {c1 : Nat} {vm : Nat → Value} {wsf : Nat → List Nat} {gf : Nat → Bs} {W : World} (h : SK T mb xs.length (d.length + 1) ah mo d D v0 vm wsf gf ys ys.length (.slice a1 ys.length c1) W) (wd : Nat) : Env (mkC T xs ys d v0 a1 c1 vm wsf gf wd) W :=
  ⟨own_base h.kr.top (Nat.le_succ T), own_base h.srt (Nat.le_succ T), fun s hs => MkAt.of_owns (h.kr.own s hs)⟩
theorem env_wide {T : Nat} {xs ys d : List Tx} {v0 : Value} {a1 : Option Addr} {c1 : Nat} {vm : Nat → Value} {wsf : Nat → List Nat} {gf : Nat → Bs} {W : World} {wd : Nat} (h : Env (mkC T xs ys d v0 a1 c1 vm wsf gf wd) W) (wd' : Nat) : Env (mkC T xs ys d v0 a1 c1 vm wsf gf wd') W := ⟨h.top, h.srt, h.mks⟩
theorem st_begin {T : Nat} {xs ys d : List Tx} {v0 : Value} {a1 : Option Addr} {c1 : Nat} {vm : Nat → Value} {wsf : Nat → List Nat} {gf : Nat → Bs} {W : World} {wd : Nat} (he : Env (mkC T xs ys d v0 a1 c1 vm wsf gf wd) W) {vI vT vS : Value}
    (hb : Tb T T ((xs.length : Int) - ys.length) wd (8 * (xs.length : Int)) v0 (.slice a1 ys.length c1) ys.length vI vT vS fullB 0 [] [(ys.length, .slice none 0 0, fullB, 0)] W) (bd : Int) (hbd : 0 ≤ bd) : St (mkC T xs ys d v0 a1 c1 vm wsf gf wd) bd ys.length W := by
  refine ⟨he, Nat.le_refl _, vI, vT, vS, 0, [], [(ys.length, .slice none 0 0, fullB, 0)], ys.length, ?_, Nat.zero_le _, by simpa using hbd, by simp, ⟨fun i t ht => ?_, fun i t u ht hu => ?_, ⟨_, rfl, rfl⟩, ⟨_, rfl, rfl⟩⟩, Lg.base⟩
  · have e : (mkC T xs ys d v0 a1 c1 vm wsf gf wd).D ys.length = fullB := DL_full xs ys wd
    rw [e]; exact hb
  · cases i with
    | zero =>
      cases ht
      exact ⟨by show 0 + ys.length ≤ ys.length; omega, (DL_full xs ys wd).symm, Nat.zero_le _⟩
    | succ i => simp at ht
  · simp at hu
/-- the table anew, with nothing in it -/
theorem tb_new {T n K : Nat} {ah mo : Int} {d : List Tx} {D : DataW Unit} {mb : Nat} {v0 v1 : Value} {vm : Nat → Value} {wsf : Nat → List Nat} {gf : Nat → Bs} {ys : List Tx} {k : Nat} {W : World} (h : SK T mb n K ah mo d D v0 vm wsf gf ys k v1 W) (wd : Int) : Tb T T ah wd mo v0 v1 0 (.slice none 0 0) (.slice none 0 0) (.slice none 0 0) fullB 0 [] [] (W.setCell ⟨T, 3, none⟩ (Z wd)) :=
  ⟨h.kr.tc.set3 _, Nat.le_refl _, World.ownsRow_nil _ _ _ _, fun _ _ => rfl, World.ownsRow_nil _ _ _ _, World.ownsRow_nil _ _ _ _, fun s hs => by cases hs⟩
theorem tb_wide {B T : Nat} {ah wd mo : Int} {v0 v1 : Value} {at_ : Nat} {vI vT vS : Value} {V : Bs} {N : Nat} {L : List Tn} {S : List Sp} {W : World} (h : Tb B T ah wd mo v0 v1 at_ vI vT vS V N L S W) (wd' : Int) : Tb B T ah wd' mo v0 v1 at_ vI vT vS V N L S (W.setCell ⟨T, 3, none⟩ (Z wd')) :=
  (h.rw_.setT h.c 3 (Z wd')).tb (h.c.set3 _) h.lo

end Go.Proofs.Ytdjdiaadflggfaa
