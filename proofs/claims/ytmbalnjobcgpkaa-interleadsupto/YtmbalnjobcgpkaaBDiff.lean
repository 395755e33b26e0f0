
/-
  What the program's Diff answers at any two rows of lines: the steps that the plain laws tell; what the laws' own alive answers; conditions: how many lines there are, and that they can lie in memory.
-/
import Derived.Test.YtmbalnjobcgpkaaBLen
import Derived.Test.YtmbalnjobcgpkaaHDiff
import Derived.Test.YtmbalnjobcgpkaaBBack
import Derived.Test.YtmbalnjobcgpkaaALaw
import Derived.Test.YtmbalnjobcgpkaaOLaw
namespace Go.Proofs.Ytmbalnjobcgpkaa
open Go.RowKit Go.Deep Go.Proofs.Ytmbalnjobcgpkaa.Ln Go.Proofs.Ytmbalnjobcgpkaa.Ol

theorem results_op1 {fn : Func} {t : Tmp} (h : fn.results = #[.cell t 37]) (tmps : Array Value) (w : World) (b : Nat) (k j : Int) (s : ByteArray) (hp : tmps.getD t undef = .pointer (some ⟨b, 0, none⟩)) (g0 : w.cell? ⟨b, 0, none⟩ = some (.int .i64 k)) (g1 : w.cell? ⟨b, 1, none⟩ = some (.int .i64 j)) (g2 : w.cell? ⟨b, 2, none⟩ = some (.string s)) :
    (results fn tmps).run Try.prog w = .ok (.agg #[.int .i64 k, .int .i64 j, .string s]) w := by
  rw [Array.getD_eq_getD_getElem?] at hp
  simp [results, h, hp, go_sem, g0, g1, g2]
set_option maxHeartbeats 1000000 in
theorem bstep_any (k : Int) (x : Tx) (w : World) (hx : x.length ≤ 140737488355328) :
    Calls Try.prog 59 #[.int .i64 k, .string ⟨x.toArray⟩] w fun e w' => e = .returned (.agg #[.int .i64 k, .int .i64 0, .string ⟨x.toArray⟩]) ∧ Below w.heap.size w w' := by
  go_enter Try.func59, Try.ntmps59
  go_wp2_with fail
  refine (clone_any x _ (by omega)).mono ?_
  rintro e w1 ⟨rfl, hb⟩
  have HB := hidden hb
  obtain ⟨B, hB⟩ : ∃ B, w.heap.size = B := ⟨_, rfl⟩
  have hblk : w1.heap[B]? = some (.cells #[.int .i64 0, .int .i64 0, .string ⟨#[]⟩] 37 (0, 0)) := by
    rw [← hB, hb.block w.heap.size (by simp)]; exact World.alloc_heap_new w _
  have c0 : w1.cell? ⟨B, 0, none⟩ = some (.int .i64 0) := by unfold World.cell?; rw [hblk]; rfl
  have c1 : w1.cell? ⟨B, 1, none⟩ = some (.int .i64 0) := by unfold World.cell?; rw [hblk]; rfl
  have c2 : w1.cell? ⟨B, 2, none⟩ = some (.string ⟨#[]⟩) := by unfold World.cell?; rw [hblk]; rfl
  have f0 : ∀ i, w1.frozen? ⟨B, i, none⟩ = false := fun i => by simp [World.frozen?, hblk]
  clear hb hblk
  go_wp2_with fail
  refine bodyPost_ret (results_op1 rfl _ _ B k 0 ⟨x.toArray⟩ rfl (by simp [c0, go_sem]) (by simp [c1, go_sem]) (by simp [c2, go_sem])) rfl ⟨rfl, ?_⟩
  have hb1 := bel_alloc (Below.refl w.heap.size w) (.cells #[.int .i64 0, .int .i64 0, .string ⟨#[]⟩] 37)
  have hb2 := hb1.trans (HB.out.mono (by simp))
  exact bel_set (bel_set (bel_set hb2 (by omega)) (by omega)) (by omega)
/-- the table stays where another row grows -/
theorem St.grown {c : Cx} {bd : Int} {at_ : Nat} {W W' : World} (h : St c bd at_ W) {B n : Nat} {v : Value} {xs : List Value} (ho : W.ownsRow B 37 3 v n xs) (hg : W.grownBy W' v.ownBlock) : St c bd at_ W' := by
  obtain ⟨vI, vT, vS, N, L, S, s, h1, h2⟩ := h.tb
  refine ⟨⟨h.env.top.kept hg (own_ne h.env.top ho (by decide)), h.env.srt.kept hg (own_ne h.env.srt ho (by decide)), fun s hs => (h.env.mks s hs).block fun b cur fr hh => hg.block b (Array.getElem?_eq_some_iff.1 hh).1 (fun e => ?_)⟩, h.le, vI, vT, vS, N, L, S, s,
    ⟨h1.c.grown ho (by decide) hg, h1.lo, h1.ids.kept hg (own_ne h1.ids ho (by decide)), h1.top, h1.trn.kept hg (own_ne h1.trn ho (by decide)), h1.stp.kept hg (own_ne h1.stp ho (by decide)), fun s hs => ⟨(h1.old s hs).1.kept hg (own_ne (h1.old s hs).1 ho (by decide)), (h1.old s hs).2⟩⟩, h2⟩
  obtain ⟨_, _, cur2, h3⟩ := own_kind ho e.symm
  rw [hh] at h3
  cases h3
theorem RowAt.behind {w : World} {b o l cap : Nat} {x : Tx} {xs : List Tx} (h : RowAt w (.slice (some ⟨b, o, none⟩) (l + 1) cap) (x :: xs)) (hl : xs.length = l) : RowAt w (.slice (if cap = 1 then some ⟨b, o, none⟩ else some ⟨b, o + 1, none⟩) l (cap - 1)) xs := by
  have := h.rest2 (k := 1) (by simp [hl]) (by omega)
  by_cases e : cap = 1
  · rw [if_pos e] at this ⊢; exact this
  · rw [if_neg e] at this ⊢; exact this
/-- what lies in memory while the steps are told -/
structure KE (w : World) (c : Cx) (xs ys : List Tx) (wd : Nat) (R : List Oq) (va vb : Value) (i k : Nat) (out : List Oq) (vo : Value) (W : World) : Prop where
  bel : Below w.heap.size w W
  ra : RowAt w va (xs.drop i)
  rb : RowAt w vb (ys.drop k)
  own : W.ownsRow w.heap.size 37 3 vo out.length (cellsO out)
  st : St c (c.mo + c.Nb) k W
  eq : out ++ df (xs.drop i) (ys.drop k) = R
  cst : Cst (mtL xs ys) xs.length ys.length wd (xs.length - i) (ys.length - k)
section
variable {w : World} {c : Cx} {xs ys : List Tx} {wd : Nat} {R : List Oq} {va vb : Value} {i k : Nat} {out : List Oq} {vo : Value} {W W' : World}
theorem KE.later (h : KE w c xs ys wd R va vb i k out vo W) (hb : Below W.heap.size W W') : KE w c xs ys wd R va vb i k out vo W' :=
  ⟨h.bel.trans (hb.mono h.bel.size), h.ra, h.rb, owns_later h.own hb, h.st.later hb, h.eq, h.cst⟩
/-- a step more; the rests are others -/
theorem KE.add (h : KE w c xs ys wd R va vb i k out vo W) {x : Oq} {v' va' vb' : Value} {i' k' : Nat} (ho : W'.ownsRow w.heap.size 37 3 v' (out ++ [x]).length (cellsO (out ++ [x]))) (ha : Adds W W' vo v') (hra : RowAt w va' (xs.drop i')) (hrb : RowAt w vb' (ys.drop k')) (he : df (xs.drop i) (ys.drop k) = x :: df (xs.drop i') (ys.drop k')) (hc : Cst (mtL xs ys) xs.length ys.length wd (xs.length - i') (ys.length - k')) :
    Below w.heap.size w W' ∧ RowAt w va' (xs.drop i') ∧ RowAt w vb' (ys.drop k') ∧ W'.ownsRow w.heap.size 37 3 v' (out ++ [x]).length (cellsO (out ++ [x])) ∧ St c (c.mo + c.Nb) k W' ∧ (out ++ [x]) ++ df (xs.drop i') (ys.drop k') = R ∧ Cst (mtL xs ys) xs.length ys.length wd (xs.length - i') (ys.length - k') :=
  ⟨below_row h.bel h.bel.size h.own (Nat.le_refl _) ha.1, hra, hrb, ho, h.st.grown h.own ha.1, by rw [← h.eq, he]; simp, hc⟩
end
/-- behind a line of the other row: the table is a rest further -/
theorem ke_back {w : World} {c : Cx} {xs ys : List Tx} {wd : Nat} {R : List Oq} {va vb : Value} {i k k' : Nat} {out : List Oq} {vo : Value} {W W' : World} (hB : w.heap.size ≤ c.B) (h : Below w.heap.size w W ∧ RowAt w va (xs.drop i) ∧ RowAt w vb (ys.drop k') ∧ W.ownsRow w.heap.size 37 3 vo out.length (cellsO out) ∧ St c (c.mo + c.Nb) k W ∧ out ++ df (xs.drop i) (ys.drop k') = R ∧ Cst (mtL xs ys) xs.length ys.length wd (xs.length - i) (ys.length - k')) (hk : KpT c.B c.T W W') (hs : St c (c.mo + c.Nb) k' W') : KE w c xs ys wd R va vb i k' out vo W' := by
  obtain ⟨h1, h2, h3, h4, h5, h6, h7⟩ := h
  have hT := h5.lt
  obtain ⟨vI, vT, vS, N, L, S, s, hTb, _⟩ := h5.tb
  exact ⟨KpT.below h1 (⟨hk.os, hk.tape, hk.output, hk.size, fun q hq hne hf => hk.block q hq hne (hf.imp (fun h => Nat.lt_of_lt_of_le h hB) id)⟩ : KpT w.heap.size c.T W W') h1.size (by omega), h2, h3, hk.row h4 (by decide) (own_notT hTb.c h4 (by decide)), hs, h6, h7⟩
theorem ke_stay {w : World} {c : Cx} {xs ys : List Tx} {wd : Nat} {R : List Oq} {va vb : Value} {i k : Nat} {out : List Oq} {vo : Value} {W : World} (h : Below w.heap.size w W ∧ RowAt w va (xs.drop i) ∧ RowAt w vb (ys.drop k) ∧ W.ownsRow w.heap.size 37 3 vo out.length (cellsO out) ∧ St c (c.mo + c.Nb) k W ∧ out ++ df (xs.drop i) (ys.drop k) = R ∧ Cst (mtL xs ys) xs.length ys.length wd (xs.length - i) (ys.length - k)) : KE w c xs ys wd R va vb i k out vo W :=
  ⟨h.1, h.2.1, h.2.2.1, h.2.2.2.1, h.2.2.2.2.1, h.2.2.2.2.2.1, h.2.2.2.2.2.2⟩
theorem didle_any {c : Cx} {xs ys : List Tx} {wd k : Nat} {bd : Int} {W : World} (hG : Good c) (hD : c.D = DL xs ys wd) (h : St c bd k W) (p : Nat) (hp : p ≤ 17179869184) : Calls Try.prog 61 #[.pointer (some ⟨c.T, 0, none⟩), .int .i64 p] W fun e w' => e = .returned (.bool (DL xs ys wd k p)) ∧ w' = W := by
  obtain ⟨_, _, vI, vT, vS, N, L, S, s, hT, hN, _⟩ := h
  rw [hD] at hT
  exact bidle_any hT (Nat.le_trans hN hG.nb) p hp
theorem RowAt.first {w : World} {a0 : Option Addr} {l c0 : Nat} {x : Tx} {xs : List Tx} (h : RowAt w (.slice a0 l c0) (x :: xs)) : ∃ b o, a0 = some ⟨b, o, none⟩ ∧ l = xs.length + 1 ∧ b < w.heap.size ∧ l ≤ c0 ∧ w.cell? ⟨b, o, none⟩ = some (.string ⟨x.toArray⟩) := by
  rcases h with ⟨h, _⟩ | ⟨b, o, cap, e, h1, h2, h3⟩
  · cases h
  · injection e with e1 e2 e3
    subst e1 e2 e3
    exact ⟨b, o, rfl, rfl, h2, h1, h3 0 x rfl⟩
theorem KE.rows {w : World} {c : Cx} {xs ys : List Tx} {wd : Nat} {R : List Oq} {va vb va' vb' : Value} {i k : Nat} {out : List Oq} {vo : Value} {W : World} (h : KE w c xs ys wd R va vb i k out vo W) (ha : RowAt w va' (xs.drop i)) (hb : RowAt w vb' (ys.drop k)) : KE w c xs ys wd R va' vb' i k out vo W := ⟨h.bel, ha, hb, h.own, h.st, h.eq, h.cst⟩
theorem RowAt.behind1 {w : World} {b o l cap : Nat} {x : Tx} {xs : List Tx} (h : RowAt w (.slice (some ⟨b, o, none⟩) (l + 1) cap) (x :: xs)) (hl : xs.length = l) : (cap = 1 → RowAt w (.slice (some ⟨b, o, none⟩) l 0) xs) ∧ (¬ cap = 1 → RowAt w (.slice (some ⟨b, o + 1, none⟩) l (cap - 1)) xs) := by
  have h2 := h.behind hl
  refine ⟨fun e => ?_, fun e => ?_⟩
  · subst e; rw [if_pos rfl] at h2; exact h2
  · rw [if_neg e] at h2; exact h2
theorem drop_atB {xs : List Tx} {i : Nat} {x : Tx} (h : xs[i]? = some x) : xs.drop i = x :: xs.drop (i + 1) := by
  obtain ⟨h1, e⟩ := List.getElem?_eq_some_iff.1 h
  rw [List.drop_eq_getElem_cons h1, e]
/-- both lines are one -/
theorem ke_keep {xs ys : List Tx} {wd i k : Nat} {x : Tx} (hx : xs[i]? = some x) (hy : ys[k]? = some x) (hc : Cst (mtL xs ys) xs.length ys.length wd (xs.length - i) (ys.length - k)) :
    df (xs.drop i) (ys.drop k) = (2, 0, x) :: df (xs.drop (i + 1)) (ys.drop (k + 1)) ∧ Cst (mtL xs ys) xs.length ys.length wd (xs.length - (i + 1)) (ys.length - (k + 1)) := by
  have h1 := (List.getElem?_eq_some_iff.1 hx).1
  have h2 := (List.getElem?_eq_some_iff.1 hy).1
  have e1 : xs.length - i = xs.length - (i + 1) + 1 := by omega
  have e2 : ys.length - k = ys.length - (k + 1) + 1 := by omega
  refine ⟨by rw [drop_atB hx, drop_atB hy, df_cons, if_pos ⟨rfl, lc_head _ _ _⟩], ?_⟩
  rw [e1, e2] at hc
  refine cst_keep hc ?_
  rw [dd_lc xs ys _ _ (by omega) (by omega), dd_lc xs ys _ _ (by omega) (by omega), ← e1, ← e2, show xs.length - (xs.length - i) = i by omega, show ys.length - (ys.length - k) = k by omega, show xs.length - (xs.length - (i + 1)) = i + 1 by omega, show ys.length - (ys.length - (k + 1)) = k + 1 by omega, drop_atB hx, drop_atB hy, lc_head]
/-- is a's line idle -/
theorem ke_idle {xs ys : List Tx} {wd i k : Nat} {x : Tx} (hx : xs[i]? = some x) (hk : k ≤ ys.length) (hc : Cst (mtL xs ys) xs.length ys.length wd (xs.length - i) (ys.length - k)) : DL xs ys wd k (xs.length - i - 1) = decide (lc (xs.drop i) (ys.drop k) = lc (xs.drop (i + 1)) (ys.drop k)) := by
  have h1 := (List.getElem?_eq_some_iff.1 hx).1
  have e1 : xs.length - i = xs.length - (i + 1) + 1 := by omega
  have e3 : xs.length - i - 1 = xs.length - (i + 1) := by omega
  rw [e1] at hc
  rw [e3]
  unfold DL
  rw [idle_lc (by omega) (by omega) hc, dd_lc xs ys _ _ (by omega) (by omega), dd_lc xs ys _ _ (by omega) (by omega), ← e1, show xs.length - (xs.length - i) = i by omega, show ys.length - (ys.length - k) = k by omega, show xs.length - (xs.length - (i + 1)) = i + 1 by omega]
theorem ke_del {xs ys : List Tx} {wd i k : Nat} {x : Tx} (hx : xs[i]? = some x) (hk : k ≤ ys.length) (hne : ∀ y, ys[k]? = some y → x ≠ y) (hid : lc (xs.drop i) (ys.drop k) = lc (xs.drop (i + 1)) (ys.drop k)) (hc : Cst (mtL xs ys) xs.length ys.length wd (xs.length - i) (ys.length - k)) :
    df (xs.drop i) (ys.drop k) = (3, 0, x) :: df (xs.drop (i + 1)) (ys.drop k) ∧ Cst (mtL xs ys) xs.length ys.length wd (xs.length - (i + 1)) (ys.length - k) := by
  have h1 := (List.getElem?_eq_some_iff.1 hx).1
  have e1 : xs.length - i = xs.length - (i + 1) + 1 := by omega
  refine ⟨?_, ?_⟩
  · by_cases e : k < ys.length
    · obtain ⟨y, hy⟩ : ∃ y, ys[k]? = some y := ⟨ys[k], List.getElem?_eq_getElem e⟩
      have hxy := hne y hy
      rw [drop_atB hx, drop_atB hy] at hid ⊢
      rw [df_cons, if_neg (fun h => hxy h.1), if_pos]
      rw [lc_cons, if_neg hxy] at hid
      omega
    · rw [List.drop_of_length_le (by omega : ys.length ≤ k), drop_atB hx, df_nilr]
  · rw [e1] at hc
    refine cst_del hc ?_
    rw [dd_lc xs ys _ _ (by omega) (by omega), dd_lc xs ys _ _ (by omega) (by omega), ← e1, show xs.length - (xs.length - i) = i by omega, show ys.length - (ys.length - k) = k by omega, show xs.length - (xs.length - (i + 1)) = i + 1 by omega, hid]
theorem ke_ins {xs ys : List Tx} {wd i k : Nat} {y : Tx} (hi : i ≤ xs.length) (hy : ys[k]? = some y) (hno : ∀ x, xs[i]? = some x → x ≠ y ∧ ¬ lc (xs.drop i) (ys.drop k) = lc (xs.drop (i + 1)) (ys.drop k)) (hc : Cst (mtL xs ys) xs.length ys.length wd (xs.length - i) (ys.length - k)) :
    df (xs.drop i) (ys.drop k) = (4, 0, y) :: df (xs.drop i) (ys.drop (k + 1)) ∧ Cst (mtL xs ys) xs.length ys.length wd (xs.length - i) (ys.length - (k + 1)) := by
  have h1 := (List.getElem?_eq_some_iff.1 hy).1
  have e1 : ys.length - k = ys.length - (k + 1) + 1 := by omega
  have key : df (xs.drop i) (ys.drop k) = (4, 0, y) :: df (xs.drop i) (ys.drop (k + 1)) ∧ lc (xs.drop i) (ys.drop k) = lc (xs.drop i) (ys.drop (k + 1)) := by
    by_cases e : i < xs.length
    · obtain ⟨x, hx⟩ : ∃ x, xs[i]? = some x := ⟨xs[i], List.getElem?_eq_getElem e⟩
      obtain ⟨hxy, hni⟩ := hno x hx
      rw [drop_atB hx, drop_atB hy] at hni ⊢
      rw [lc_cons, if_neg hxy] at hni
      rw [df_cons, if_neg (fun h => hxy h.1), if_neg (by omega), lc_cons, if_neg hxy]
      exact ⟨rfl, by omega⟩
    · rw [List.drop_of_length_le (by omega : xs.length ≤ i), drop_atB hy, df_nil, df_nil, lc_nil, lc_nil]
      exact ⟨rfl, rfl⟩
  refine ⟨key.1, ?_⟩
  rw [e1] at hc
  refine cst_ins hc ?_
  rw [dd_lc xs ys _ _ (by omega) (by omega), dd_lc xs ys _ _ (by omega) (by omega), ← e1, show ys.length - (ys.length - k) = k by omega, show xs.length - (xs.length - i) = i by omega, show ys.length - (ys.length - (k + 1)) = k + 1 by omega, key.2]

end Go.Proofs.Ytmbalnjobcgpkaa

namespace Go.Proofs.Ytmbalnjobcgpkaa
open Go.RowKit Go.Deep Go.Proofs.Ytmbalnjobcgpkaa.Ln Go.Proofs.Ytmbalnjobcgpkaa.Ol

def kp2 (l : List Tx) : List Oq := l.map fun x => (2, 0, x)
/-- while the common beginning is told -/
structure KF (w : World) (a : List Tx) (j : Nat) (out : List Oq) (vo : Value) (W : World) : Prop where
  bel : Below w.heap.size w W
  own : W.ownsRow w.heap.size 37 3 vo out.length (cellsO out)
  eq : out = kp2 (a.take j)
theorem KF.later {w : World} {a : List Tx} {j : Nat} {out : List Oq} {vo : Value} {W W' : World} (h : KF w a j out vo W) (hb : Below W.heap.size W W') : KF w a j out vo W' := ⟨h.bel.trans (hb.mono h.bel.size), owns_later h.own hb, h.eq⟩
theorem KF.add {w : World} {a : List Tx} {j : Nat} {out : List Oq} {vo v' : Value} {x : Tx} {W W' : World} (h : KF w a j out vo W) (hx : a[j]? = some x) (ho : W'.ownsRow w.heap.size 37 3 v' (out ++ [(2, 0, x)]).length (cellsO (out ++ [(2, 0, x)]))) (ha : Adds W W' vo v') : KF w a (j + 1) (out ++ [(2, 0, x)]) v' W' := by
  refine ⟨below_row h.bel h.bel.size h.own (Nat.le_refl _) ha.1, ho, ?_⟩
  obtain ⟨h1, e⟩ := List.getElem?_eq_some_iff.1 hx
  rw [h.eq, List.take_add_one, hx, kp2, kp2, List.map_append]
  rfl
set_option maxRecDepth 3000 in
set_option maxHeartbeats 16000000 in
theorem lcsdiff_any (v u : Value) (a b : List Tx) (w : World) (hA : RowAt w v a) (hB : RowAt w u b) (hla : a.length ≤ 4294967296) (hlb : b.length ≤ 4294967296) (hfa : FitT a) (hfb : FitT b) :
    Calls Try.prog 43 #[v, u] w fun e w' => ∃ v', e = .returned v' ∧ OpsAt w' v' (df a b) ∧ Below w.heap.size w w' := by
  have HAL := hidden (balike_any v u a b w hA hB (by omega) (by omega))
  have HA := hidden hA
  have HB := hidden hB
  obtain ⟨ao, cap, rfl, hca⟩ := hA.open_
  obtain ⟨bo, cap2, rfl⟩ := hB.shape
  have hcp := hA.room
  have hcp2 := hB.room
  obtain ⟨k0, hk⟩ : ∃ k, alk a b = k := ⟨_, rfl⟩
  have hkl := alk_le a b
  have HDF := hidden (df_alk a b)
  rw [hk] at hkl HDF HAL
  obtain ⟨n, hn⟩ : ∃ n, a.length = n := ⟨_, rfl⟩
  obtain ⟨m, hm⟩ : ∃ m, b.length = m := ⟨_, rfl⟩
  have HN := hidden hn
  have HM := hidden hm
  have HFA := hidden hfa
  have HFB := hidden hfb
  rw [hn] at hla hcp hkl HAL HA hca
  rw [hm] at hlb hcp2 hkl HAL HB
  rw [hn, hm]
  have HCA := hidden hca
  clear hA hB hn hm hk hfa hfb hca
  go_enter Try.func43, Try.ntmps43
  go_wp2_with fail
  go_step3
  go_wp2_with fail
  refine HAL.out.mono ?_
  rintro e w1 ⟨rfl, hb1⟩
  have HF0 := hidden (show KF w a 0 [] (.slice none 0 0) w1 from ⟨hb1, World.ownsRow_nil _ _ _ _, rfl⟩)
  clear HAL hb1
  go_wp2_with fail
  go_loopw [5, 17] (fun v5 s wr => ∃ (j : Nat) (out : List Oq), j ≤ k0 ∧ s = .int .i64 j ∧ Hid (KF w a j out v5 wr)) (fun _ s _ => k0 - (intOf s).toNat)
  case atStart => exact ⟨0, [], Nat.zero_le _, rfl, HF0.out⟩
  case round =>
    obtain ⟨j, out, hjk, rfl, hkf⟩ := hrel
    clear HF0
    have HKF := hidden hkf.out
    by_cases hlt : j < k0
    · obtain ⟨x, hx⟩ : ∃ x, a[j]? = some x := ⟨a[j]'(by rw [HN.out]; omega), List.getElem?_eq_getElem _⟩
      obtain ⟨b1, o1, hao, hcp1, hb1, cx⟩ := HCA.out j x hx
      subst hao
      have cx2 := (hkf.out.bel.cell (p := ⟨b1, o1 + j, none⟩) hb1).trans cx
      have HX := hidden hx
      have hxl := HFA.out x (List.mem_of_getElem? hx)
      have hol : out.length ≤ 4294967296 := by rw [hkf.out.eq]; simp [kp2]; omega
      have hbw := hkf.out.bel.size
      clear hkf hx cx
      go_wp2_with fail
      refine (bstep_any 2 x _ hxl).mono ?_
      rintro e w2 ⟨rfl, hb2⟩
      have HK2 := hidden (HKF.out.later hb2)
      have hbw2 := HK2.out.bel.size
      clear HKF hb2 cx2 hbw
      go_wp2_with (at_builtin; go_must (refine wpList_append_ops _ (by go_simp) (.tmp 21) (.tmp 24) rfl w.heap.size _ (.slice (some ⟨w2.heap.size, 0, none⟩) 1 1) out [(2, 0, x)] rfl rfl (HK2.out.own.alloc _) (ops_oneAt _ _ _ _ _ (by simp)) (by simp; omega) (by simp; omega) ?_; intro v9 w9 hown9 hadd9))
      have HK9 := hidden ((HK2.out.later (bel_alloc (Below.refl _ _) _)).add HX.out hown9 hadd9)
      clear hown9 hadd9 HK2
      go_roundw
      case rel => exact ⟨j + 1, _, by omega, by go_num, HK9.out⟩
      case measure => simp [intOf]; omega
    · obtain rfl : j = k0 := by omega
      clear hkf
      obtain ⟨va, hva⟩ : ∃ v, Value.slice (if cap = j then ao else Option.map (fun x => x.add j) ao) (n - j) (cap - j) = v := ⟨_, rfl⟩
      obtain ⟨vb, hvb⟩ : ∃ v, Value.slice (if cap2 = j then bo else Option.map (fun x => x.add j) bo) (m - j) (cap2 - j) = v := ⟨_, rfl⟩
      have HRA := hidden (show RowAt w va (a.drop j) by rw [← hva]; exact HA.out.rest2 HN.out.symm hkl.1)
      have HRB := hidden (show RowAt w vb (b.drop j) by rw [← hvb]; exact HB.out.rest2 HM.out.symm hkl.2)
      have HKR := hidden HKF.out.bel
      have HCM := hidden (fun (W : World) (h : Below w.heap.size w W) => bcommon_any va vb (a.drop j) (b.drop j) W (HRA.out.later h) (HRB.out.later h) (by rw [List.length_drop, HN.out]; omega) (by rw [List.length_drop, HM.out]; omega) (HFA.out.drop j) (HFB.out.drop j))
      go_wp2_with fail
      go_region
      have HKD := hidden (HKF.out.later (Below.refl _ wr).drew)
      clear HKF
      go_wp2_with fail
      refine (HCM.out _ HKD.out.bel).mono ?_
      rintro e w5 ⟨c, wd, rfl, hG, hm, hD, hE, hS, hBs, hBel⟩
      obtain ⟨a5, c5, rfl⟩ := HRA.out.shape
      obtain ⟨b5, d5, rfl⟩ := HRB.out.shape
      obtain ⟨xs, hxs⟩ : ∃ l, a.drop j = l := ⟨_, rfl⟩
      obtain ⟨ys, hys⟩ : ∃ l, b.drop j = l := ⟨_, rfl⟩
      obtain ⟨R, hR⟩ : ∃ l, df a b = l := ⟨_, rfl⟩
      have hxn : xs.length ≤ 4294967296 := by rw [← hxs, List.length_drop, HN.out]; omega
      have hyn : ys.length ≤ 4294967296 := by rw [← hys, List.length_drop, HM.out]; omega
      have HFX := hidden (show FitT xs by rw [← hxs]; exact HFA.out.drop j)
      have HFY := hidden (show FitT ys by rw [← hys]; exact HFB.out.drop j)
      have hRl : R.length ≤ 8589934592 := by
        rw [← hR]
        have := df_len_le a b
        rw [HN.out, HM.out] at this
        omega
      have HK0 := hidden (show KE w c xs ys wd R (.slice a5 (a.drop j).length c5) (.slice b5 (b.drop j).length d5) 0 0 out u5 w5 from by
        have h1 := HKD.out.bel
        refine ⟨h1.trans (hBel.mono h1.size), by rw [List.drop_zero, ← hxs]; exact HRA.out, by rw [List.drop_zero, ← hys]; exact HRB.out, owns_later HKD.out.own hBel, hS, ?_, ?_⟩
        · rw [List.drop_zero, List.drop_zero, ← hR, HDF.out, HKD.out.eq, hxs, hys]; rfl
        · rw [Nat.sub_zero, Nat.sub_zero]; rw [hxs, hys] at hE; exact cst_start hE)
      have HG := hidden hG
      rw [hxs, hys] at HK0
      rw [hxs, hys]
      rw [hxs, hys] at hD
      rw [hys] at hm
      have HD := hidden hD
      have HBs := hidden (show w.heap.size ≤ c.B by rw [hBs]; exact HKD.out.bel.size)
      have hcm := hm
      have HRR := hidden hR
      clear hG hD hE hS hBs hBel hm HKD HCM HRA HRB HKR hxs hys hR HDF HFA HFB HCA hva hvb HA HB
      go_wp2_with fail
      go_step3
      go_wp2_with fail
      go_loopg [0, 1, 5] (xs.length + ys.length) (fun g v0 v1 v5 wr => ∃ (i k : Nat) (out : List Oq), i ≤ xs.length ∧ k ≤ ys.length ∧ g = (xs.length - i) + (ys.length - k) ∧ Hid (KE w c xs ys wd R v0 v1 i k out v5 wr))
      case atStart => exact ⟨0, 0, out, Nat.zero_le _, Nat.zero_le _, by omega, HK0.out⟩
      case round =>
        obtain ⟨i, k, out, hi, hk, hg, hke⟩ := hrel
        clear HK0
        have HK := hidden hke.out
        have hbw := hke.out.bel.size
        have hol : out.length ≤ 8589934592 := by
          have h1 := congrArg List.length hke.out.eq
          rw [List.length_append] at h1
          omega
        have hra := hke.out.ra
        have hrb := hke.out.rb
        have hcst := hke.out.cst
        have hbel := hke.out.bel
        obtain ⟨a0, c0, rfl⟩ := hra.shape
        obtain ⟨b0, d0, rfl⟩ := hrb.shape
        clear hke
        by_cases hin : i < xs.length
        · by_cases hkn : k < ys.length
          · have HRA0 := hidden hra
            obtain ⟨x, hx⟩ : ∃ x, xs[i]? = some x := ⟨xs[i], List.getElem?_eq_getElem hin⟩
            have hxl := HFX.out x (List.mem_of_getElem? hx)
            rw [drop_atB hx] at hra
            obtain ⟨b1, o1, rfl, _, hb1, hc0, cx⟩ := hra.first
            obtain ⟨l, hl⟩ : ∃ l, (xs.drop (i + 1)).length = l := ⟨_, rfl⟩
            have hli : l = xs.length - (i + 1) := by rw [← hl, List.length_drop]
            have hl1 : (xs.drop i).length = l + 1 := by rw [List.length_drop]; omega
            have cx2 := (hbel.cell (p := ⟨b1, o1, none⟩) hb1).trans cx
            have hz1 : ((l : Int) + 1 == 0) = false := by simp; omega
            have hp1 : decide ((l : Int) + 1 > 0) = true := decide_eq_true (by omega)
            have hp2 : decide (0 < (l : Int) + 1) = true := decide_eq_true (by omega)
            rw [List.length_cons, hl] at hra hc0
            have HRA2 := hidden (hra.behind hl)
            have HRA3 := hidden (hra.behind1 hl)
            rw [hl1] at HK ⊢
            have HLI := hidden hli
            have hlb3 : l ≤ 4294967296 := by omega
            have HL1 := hidden hl1
            clear hra cx hb1 hl hli hl1
            rw [HL1.out] at HRA0
            obtain ⟨y, hy⟩ : ∃ y, ys[k]? = some y := ⟨ys[k], List.getElem?_eq_getElem hkn⟩
            have hyl := HFY.out y (List.mem_of_getElem? hy)
            have hrb3 := hrb
            rw [drop_atB hy] at hrb
            obtain ⟨b2, o2, rfl, _, hb2, hd0, cy⟩ := hrb.first
            obtain ⟨q, hq⟩ : ∃ q, (ys.drop (k + 1)).length = q := ⟨_, rfl⟩
            have hqi : q = ys.length - (k + 1) := by rw [← hq, List.length_drop]
            have hq1 : (ys.drop k).length = q + 1 := by rw [List.length_drop]; omega
            have cy2 := (hbel.cell (p := ⟨b2, o2, none⟩) hb2).trans cy
            have hw1 : ((q : Int) + 1 == 0) = false := by simp; omega
            have hr1 : decide ((q : Int) + 1 > 0) = true := decide_eq_true (by omega)
            have hr2 : decide (0 < (q : Int) + 1) = true := decide_eq_true (by omega)
            rw [List.length_cons, hq] at hrb hd0
            have HRB2 := hidden (hrb.behind hq)
            have HRB3 := hidden (hrb.behind1 hq)
            have HRB0 := hidden hrb3
            rw [hq1] at HK HRB0 ⊢
            have HQI := hidden hqi
            clear hrb hrb3 cy hb2 hq hqi hq1
            by_cases hxy : x = y
            · subst hxy
              have HE := hidden (ke_keep hx hy hcst)
              have hqq : (x == x) = true := by simp
              clear hcst hbel hy hx
              go_wp2_with fail
              go_quiet (fail)
              go_wp2_with fail
              refine (bstep_any 2 x _ hxl).mono ?_
              rintro e w2 ⟨rfl, hb2⟩
              have HK2 := hidden ((HK.out.later (by first | exact (Below.refl _ wr).drew | exact below_drewN (Below.refl _ wr) _ | exact Below.refl _ _)).later hb2)
              have hbw2 := HK2.out.bel.size
              clear HK hb2 hbw
              go_wp2_with (at_builtin; go_must (refine wpList_append_ops _ (by go_simp) (.tmp 70) (.tmp 75) rfl w.heap.size _ (.slice (some ⟨w2.heap.size, 0, none⟩) 1 1) out [(2, 0, x)] rfl rfl (HK2.out.own.alloc _) (ops_oneAt _ _ _ _ _ (by simp)) (by simp; omega) (by simp; omega) ?_; intro v9 w9 hown9 hadd9; have HK9 := hidden ((HK2.out.later (bel_alloc (Below.refl _ _) _)).add (i' := i + 1) (k' := k + 1) hown9 hadd9 HRA2.out HRB2.out HE.out.1 HE.out.2); clear hown9 hadd9 HK2))
              all_goals
                refine (bback_any c HG.out k (by rw [hcm]; exact hkn) _ HK9.out.2.2.2.2.1).mono ?_
                rintro e w10 ⟨⟨e10, rfl⟩, hk10, hS10⟩
                have HKX := hidden (ke_back HBs.out HK9.out hk10 hS10)
                clear HK9 hk10 hS10
                go_wp2_with fail
                go_roundg ((xs.length - (i + 1)) + (ys.length - (k + 1)))
                case measure => omega
                case rel => exact ⟨(i + 1), k + 1, _, by omega, by omega, rfl, HKX.out.rows (by first | exact HRA0.out | exact HRA2.out | exact HRA3.out.1 (by assumption) | exact HRA3.out.2 (by assumption)) (by first | exact HRB0.out | exact HRB2.out | exact HRB3.out.1 (by assumption) | exact HRB3.out.2 (by assumption))⟩
            · have hqq : (x == y) = false := by simpa using hxy
              by_cases hid : lc (xs.drop i) (ys.drop k) = lc (xs.drop (i + 1)) (ys.drop k)
              · have HE := hidden (ke_del hx hk (fun y' h => by rw [hy] at h; cases h; exact hxy) hid hcst)
                have hix := ke_idle hx hk hcst
                rw [decide_eq_true hid] at hix
                have HID := hidden (fun (W : World) (h : Below wr.heap.size wr W) => didle_any HG.out HD.out (HK.out.st.later h) l (by have := HLI.out; omega))
                rw [show xs.length - i - 1 = l by have := HLI.out; omega] at hix
                rw [hix] at HID
                clear hix hid hcst hbel
                go_wp2_with fail
                go_quiet (fail)
                go_wp2_with fail
                refine (HID.out _ (by first | exact (Below.refl _ wr).drew | exact below_drewN (Below.refl _ wr) _ | exact Below.refl _ _)).mono ?_
                rintro e w6 ⟨rfl, hw6⟩
                subst w6
                go_wp2_with fail
                refine (bstep_any 3 x _ hxl).mono ?_
                rintro e w2 ⟨rfl, hb2⟩
                have HK2 := hidden ((HK.out.later (by first | exact (Below.refl _ wr).drew | exact below_drewN (Below.refl _ wr) _ | exact Below.refl _ _)).later hb2)
                have hbw2 := HK2.out.bel.size
                clear HK hb2 hbw
                go_wp2_with (at_builtin; go_must (refine wpList_append_ops _ (by go_simp) (.tmp 90) (.tmp 95) rfl w.heap.size _ (.slice (some ⟨w2.heap.size, 0, none⟩) 1 1) out [(3, 0, x)] rfl rfl (HK2.out.own.alloc _) (ops_oneAt _ _ _ _ _ (by simp)) (by simp; omega) (by simp; omega) ?_; intro v9 w9 hown9 hadd9; have HK9 := hidden ((HK2.out.later (bel_alloc (Below.refl _ _) _)).add (i' := i + 1) (k' := k) hown9 hadd9 HRA2.out HRB0.out HE.out.1 HE.out.2); clear hown9 hadd9 HK2))
                all_goals
                  have HKX := hidden (ke_stay HK9.out)
                  clear HK9
                  go_roundg ((xs.length - (i + 1)) + (ys.length - k))
                  case measure => omega
                  case rel => exact ⟨i + 1, k, _, by omega, by omega, rfl, HKX.out.rows (by first | exact HRA0.out | exact HRA2.out | exact HRA3.out.1 (by assumption) | exact HRA3.out.2 (by assumption)) (by first | exact HRB0.out | exact HRB2.out | exact HRB3.out.1 (by assumption) | exact HRB3.out.2 (by assumption))⟩
              · have HE := hidden (ke_ins hi hy (fun x2 h => by rw [hx] at h; cases h; exact ⟨hxy, hid⟩) hcst)
                have hix := ke_idle hx hk hcst
                rw [decide_eq_false hid] at hix
                have HID := hidden (fun (W : World) (h : Below wr.heap.size wr W) => didle_any HG.out HD.out (HK.out.st.later h) l (by have := HLI.out; omega))
                rw [show xs.length - i - 1 = l by have := HLI.out; omega] at hix
                rw [hix] at HID
                clear hix hid hcst hbel
                go_wp2_with fail
                go_quiet (fail)
                go_wp2_with fail
                refine (HID.out _ (by first | exact (Below.refl _ wr).drew | exact below_drewN (Below.refl _ wr) _ | exact Below.refl _ _)).mono ?_
                rintro e w6 ⟨rfl, hw6⟩
                subst w6
                go_wp2_with fail
                refine (bstep_any 4 y _ hyl).mono ?_
                rintro e w2 ⟨rfl, hb2⟩
                have HK2 := hidden ((HK.out.later (by first | exact (Below.refl _ wr).drew | exact below_drewN (Below.refl _ wr) _ | exact Below.refl _ _)).later hb2)
                have hbw2 := HK2.out.bel.size
                clear HK hb2 hbw
                go_wp2_with (at_builtin; go_must (refine wpList_append_ops _ (by go_simp) (.tmp 36) (.tmp 41) rfl w.heap.size _ (.slice (some ⟨w2.heap.size, 0, none⟩) 1 1) out [(4, 0, y)] rfl rfl (HK2.out.own.alloc _) (ops_oneAt _ _ _ _ _ (by simp)) (by simp; omega) (by simp; omega) ?_; intro v9 w9 hown9 hadd9; have HK9 := hidden ((HK2.out.later (bel_alloc (Below.refl _ _) _)).add (i' := i) (k' := k + 1) hown9 hadd9 HRA0.out HRB2.out HE.out.1 HE.out.2); clear hown9 hadd9 HK2))
                all_goals
                  refine (bback_any c HG.out k (by rw [hcm]; exact hkn) _ HK9.out.2.2.2.2.1).mono ?_
                  rintro e w10 ⟨⟨e10, rfl⟩, hk10, hS10⟩
                  have HKX := hidden (ke_back HBs.out HK9.out hk10 hS10)
                  clear HK9 hk10 hS10
                  go_wp2_with fail
                  go_roundg ((xs.length - i) + (ys.length - (k + 1)))
                  case measure => omega
                  case rel => exact ⟨i, k + 1, _, by omega, by omega, rfl, HKX.out.rows (by first | exact HRA0.out | exact HRA2.out | exact HRA3.out.1 (by assumption) | exact HRA3.out.2 (by assumption)) (by first | exact HRB0.out | exact HRB2.out | exact HRB3.out.1 (by assumption) | exact HRB3.out.2 (by assumption))⟩
          · obtain rfl : k = ys.length := by omega
            obtain ⟨x, hx⟩ : ∃ x, xs[i]? = some x := ⟨xs[i], List.getElem?_eq_getElem hin⟩
            have hxl := HFX.out x (List.mem_of_getElem? hx)
            rw [drop_atB hx] at hra
            obtain ⟨b1, o1, rfl, _, hb1, hc0, cx⟩ := hra.first
            obtain ⟨l, hl⟩ : ∃ l, (xs.drop (i + 1)).length = l := ⟨_, rfl⟩
            have hli : l = xs.length - (i + 1) := by rw [← hl, List.length_drop]
            have hl1 : (xs.drop i).length = l + 1 := by rw [List.length_drop]; omega
            have cx2 := (hbel.cell (p := ⟨b1, o1, none⟩) hb1).trans cx
            have hz1 : ((l : Int) + 1 == 0) = false := by simp; omega
            have hp1 : decide ((l : Int) + 1 > 0) = true := decide_eq_true (by omega)
            have hp2 : decide (0 < (l : Int) + 1) = true := decide_eq_true (by omega)
            rw [List.length_cons, hl] at hra hc0
            have HRA2 := hidden (hra.behind hl)
            have HRA3 := hidden (hra.behind1 hl)
            rw [hl1] at HK ⊢
            have HLI := hidden hli
            have hlb3 : l ≤ 4294967296 := by omega
            have HL1 := hidden hl1
            clear hra cx hb1 hl hli hl1
            have hq1 : (ys.drop ys.length).length = 0 := by rw [List.drop_length]; rfl
            have HRB0 := hidden hrb
            rw [hq1] at HK HRB0 ⊢
            have hid : lc (xs.drop i) (ys.drop ys.length) = lc (xs.drop (i + 1)) (ys.drop ys.length) := by rw [List.drop_length, lc_nilr, lc_nilr]
            clear hrb
            have HE := hidden (ke_del hx hk (fun y' h => by rw [List.getElem?_eq_none (by omega)] at h; cases h) hid hcst)
            have hix := ke_idle hx hk hcst
            rw [decide_eq_true hid] at hix
            have HID := hidden (fun (W : World) (h : Below wr.heap.size wr W) => didle_any HG.out HD.out (HK.out.st.later h) l (by have := HLI.out; omega))
            rw [show xs.length - i - 1 = l by have := HLI.out; omega] at hix
            rw [hix] at HID
            clear hix hid hcst hbel
            go_wp2_with fail
            go_quiet (fail)
            go_wp2_with fail
            refine (HID.out _ (by first | exact (Below.refl _ wr).drew | exact below_drewN (Below.refl _ wr) _ | exact Below.refl _ _)).mono ?_
            rintro e w6 ⟨rfl, hw6⟩
            subst w6
            go_wp2_with fail
            refine (bstep_any 3 x _ hxl).mono ?_
            rintro e w2 ⟨rfl, hb2⟩
            have HK2 := hidden ((HK.out.later (by first | exact (Below.refl _ wr).drew | exact below_drewN (Below.refl _ wr) _ | exact Below.refl _ _)).later hb2)
            have hbw2 := HK2.out.bel.size
            clear HK hb2 hbw
            go_wp2_with (at_builtin; go_must (refine wpList_append_ops _ (by go_simp) (.tmp 90) (.tmp 95) rfl w.heap.size _ (.slice (some ⟨w2.heap.size, 0, none⟩) 1 1) out [(3, 0, x)] rfl rfl (HK2.out.own.alloc _) (ops_oneAt _ _ _ _ _ (by simp)) (by simp; omega) (by simp; omega) ?_; intro v9 w9 hown9 hadd9; have HK9 := hidden ((HK2.out.later (bel_alloc (Below.refl _ _) _)).add (i' := i + 1) (k' := ys.length) hown9 hadd9 HRA2.out HRB0.out HE.out.1 HE.out.2); clear hown9 hadd9 HK2))
            all_goals
              have HKX := hidden (ke_stay HK9.out)
              clear HK9
              go_roundg ((xs.length - (i + 1)) + (ys.length - ys.length))
              case measure => omega
              case rel => exact ⟨i + 1, ys.length, _, by omega, by omega, rfl, HKX.out.rows (by first | exact HRA0.out | exact HRA2.out | exact HRA3.out.1 (by assumption) | exact HRA3.out.2 (by assumption)) (by first | exact HRB0.out | exact HRB2.out | exact HRB3.out.1 (by assumption) | exact HRB3.out.2 (by assumption))⟩
        · obtain rfl : i = xs.length := by omega
          have hl1 : (xs.drop xs.length).length = 0 := by rw [List.drop_length]; rfl
          have HRA0 := hidden hra
          rw [hl1] at HK HRA0 ⊢
          clear hra
          by_cases hkn : k < ys.length
          · obtain ⟨y, hy⟩ : ∃ y, ys[k]? = some y := ⟨ys[k], List.getElem?_eq_getElem hkn⟩
            have hyl := HFY.out y (List.mem_of_getElem? hy)
            have hrb3 := hrb
            rw [drop_atB hy] at hrb
            obtain ⟨b2, o2, rfl, _, hb2, hd0, cy⟩ := hrb.first
            obtain ⟨q, hq⟩ : ∃ q, (ys.drop (k + 1)).length = q := ⟨_, rfl⟩
            have hqi : q = ys.length - (k + 1) := by rw [← hq, List.length_drop]
            have hq1 : (ys.drop k).length = q + 1 := by rw [List.length_drop]; omega
            have cy2 := (hbel.cell (p := ⟨b2, o2, none⟩) hb2).trans cy
            have hw1 : ((q : Int) + 1 == 0) = false := by simp; omega
            have hr1 : decide ((q : Int) + 1 > 0) = true := decide_eq_true (by omega)
            have hr2 : decide (0 < (q : Int) + 1) = true := decide_eq_true (by omega)
            rw [List.length_cons, hq] at hrb hd0
            have HRB2 := hidden (hrb.behind hq)
            have HRB3 := hidden (hrb.behind1 hq)
            have HRB0 := hidden hrb3
            rw [hq1] at HK HRB0 ⊢
            have HQI := hidden hqi
            clear hrb hrb3 cy hb2 hq hqi hq1
            have HE := hidden (ke_ins hi hy (fun x2 h => by rw [List.getElem?_eq_none (by omega)] at h; cases h) hcst)
            clear hcst hbel
            go_wp2_with fail
            go_region
            go_wp2_with fail
            refine (bstep_any 4 y _ hyl).mono ?_
            rintro e w2 ⟨rfl, hb2⟩
            have HK2 := hidden ((HK.out.later (by first | exact (Below.refl _ wr).drew | exact below_drewN (Below.refl _ wr) _ | exact Below.refl _ _)).later hb2)
            have hbw2 := HK2.out.bel.size
            clear HK hb2 hbw
            go_wp2_with (at_builtin; go_must (refine wpList_append_ops _ (by go_simp) (.tmp 36) (.tmp 41) rfl w.heap.size _ (.slice (some ⟨w2.heap.size, 0, none⟩) 1 1) out [(4, 0, y)] rfl rfl (HK2.out.own.alloc _) (ops_oneAt _ _ _ _ _ (by simp)) (by simp; omega) (by simp; omega) ?_; intro v9 w9 hown9 hadd9; have HK9 := hidden ((HK2.out.later (bel_alloc (Below.refl _ _) _)).add (i' := xs.length) (k' := k + 1) hown9 hadd9 HRA0.out HRB2.out HE.out.1 HE.out.2); clear hown9 hadd9 HK2))
            all_goals
              refine (bback_any c HG.out k (by rw [hcm]; exact hkn) _ HK9.out.2.2.2.2.1).mono ?_
              rintro e w10 ⟨⟨e10, rfl⟩, hk10, hS10⟩
              have HKX := hidden (ke_back HBs.out HK9.out hk10 hS10)
              clear HK9 hk10 hS10
              go_wp2_with fail
              go_roundg ((xs.length - xs.length) + (ys.length - (k + 1)))
              case measure => omega
              case rel => exact ⟨xs.length, k + 1, _, by omega, by omega, rfl, HKX.out.rows (by first | exact HRA0.out | exact HRA2.out | exact HRA3.out.1 (by assumption) | exact HRA3.out.2 (by assumption)) (by first | exact HRB0.out | exact HRB2.out | exact HRB3.out.1 (by assumption) | exact HRB3.out.2 (by assumption))⟩
          · obtain rfl : k = ys.length := by omega
            have hq1 : (ys.drop ys.length).length = 0 := by rw [List.drop_length]; rfl
            rw [hq1] at HK ⊢
            have HE := hidden (show out = R by
              have := HK.out.eq
              rw [List.drop_length, List.drop_length, df_nil, List.map_nil, List.append_nil] at this
              exact this)
            clear hcst hbel hrb
            go_wp2_with fail
            try rw [Exit.noGoto_ret]
            go_ret
            exact ⟨_, rfl, by rw [HRR.out, ← HE.out]; exact OpsAt.of_owns HK.out.own, HK.out.bel⟩

end Go.Proofs.Ytmbalnjobcgpkaa

namespace Go.Proofs.Ytmbalnjobcgpkaa
open Go.RowKit Go.Proofs.Ytmbalnjobcgpkaa.Ln Go.Proofs.Ytmbalnjobcgpkaa.Ol

def A12 : List Tx := [[97]]
def B12 : List Tx := [[98]]
def AB12 : List Tx := [[97], [98]]
theorem row_new {W : World} {n : Nat} {xs : List Tx} {cs : Array Value} (b : Nat) (hb : b = W.heap.size) (hc : cs.toList = xs.map S) (hn : n = xs.length) : RowAt (W.alloc (.cells cs 9)) (.slice (some ⟨b, 0, none⟩) n n) xs := by
  subst hb
  exact row_lit (World.alloc_heap_new W _) hc hn

end Go.Proofs.Ytmbalnjobcgpkaa
