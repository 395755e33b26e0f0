/-
  The whole machine of a node that may be, and the walk that begins with it; conditions: how many parts the node has, and that it may be.
-/
import Derived.Test.YtjlihidmohokhaaNLayN
namespace Go.Proofs.Ytjlihidmohokhaa
open Go.RowKit Go.Proofs.Ytjlihidmohokhaa.Gl

/-- a block of two cells -/
def Two (w : World) (b : Nat) (c0 c1 : Value) (t : TypeId) : Prop := w.heap[b]? = some (.cells #[c0, c1] t)
theorem Two.cells {w : World} {b : Nat} {c0 c1 : Value} {t : TypeId} (h : Two w b c0 c1 t) : w.cell? ⟨b, 0, none⟩ = some c0 ∧ w.cell? ⟨b, 1, none⟩ = some c1 := by unfold Two at h; simp [World.cell?, h]
theorem Two.thawed {w : World} {b : Nat} {c0 c1 : Value} {t : TypeId} (h : Two w b c0 c1 t) : w.frozen? ⟨b, 0, none⟩ = false ∧ w.frozen? ⟨b, 1, none⟩ = false := by unfold Two at h; simp [World.frozen?, h]
theorem Two.lt {w : World} {b : Nat} {c0 c1 : Value} {t : TypeId} (h : Two w b c0 c1 t) : b < w.heap.size := (Array.getElem?_eq_some_iff.1 h).1
theorem Two.keep {w w' : World} {b : Nat} {c0 c1 : Value} {t : TypeId} (h : Two w b c0 c1 t) (hb : w'.heap[b]? = w.heap[b]?) : Two w' b c0 c1 t := by unfold Two; rw [hb]; exact h
theorem Two.put {w : World} {b : Nat} {c0 c1 : Value} {t : TypeId} (h : Two w b c0 c1 t) (d0 d1 : Value) : Two ((w.setCell ⟨b, 0, none⟩ d0).setCell ⟨b, 1, none⟩ d1) b d0 d1 t := by
  have h1 : (w.setCell ⟨b, 0, none⟩ d0).heap[b]? = some (.cells #[d0, c1] t) := heap_setCell_same w b 0 _ t _ h
  exact heap_setCell_same (w.setCell ⟨b, 0, none⟩ d0) b 1 _ t _ h1
theorem Two.newAt {w : World} {b : Nat} {c0 c1 : Value} {t : TypeId} (hb : b = w.heap.size) : Two (w.alloc (.cells #[c0, c1] t)) b c0 c1 t := by
  subst hb
  show (w.heap.push _)[w.heap.size]? = _
  exact Array.getElem?_push_size
theorem owns_base {w : World} {B B' : Nat} {e : TypeId} {size : Nat} {v : Value} {n : Nat} {xs : List Value} (h : w.ownsRow B e size v n xs) (hB : B' ≤ B) : w.ownsRow B' e size v n xs := by
  refine ⟨h.1, ?_⟩
  rcases h.2 with hn | ⟨g, cap, cur, hv, hg, rest⟩
  · exact Or.inl hn
  · exact Or.inr ⟨g, cap, cur, hv, by omega, rest⟩
theorem results_two1 {fn : Func} {t : Tmp} (h : fn.results = #[.cell t 56]) (tmps : Array Value) (w : World) (b : Nat) (c0 c1 : Value) (hp : tmps.getD t undef = .pointer (some ⟨b, 0, none⟩)) (hb : Two w b c0 c1 56) :
    (results fn tmps).run Try.prog w = .ok (.agg #[c0, c1]) w := by
  obtain ⟨q0, q1⟩ := hb.cells
  rw [Array.getD_eq_getD_getElem?] at hp
  simp [results, h, hp, go_sem, q0, q1]

/-- a machine that takes what a node takes -/
structure Mach (x : Nd) (ss : List Sta) (first : Nat) : Prop where
  zero : ∃ t, ss[0]? = some t ∧ t.kind = 0
  wf : ∀ i t, 1 ≤ i → ss[i]? = some t → 1 ≤ t.kind ∧ t.kind ≤ 4 ∧ t.next < ss.length ∧ t.other < ss.length
  all : ∀ (i : Nat) (t : Sta), ss[i]? = some t → t.kind ≤ 4 ∧ t.next < ss.length ∧ t.other < ss.length
  at_ : first < ss.length
  good : ∀ s, Gd ss s (tk s x) 0 first
  len : ss.length ≤ 100000

/-- what is kept while a machine is made -/
structure OKp (w : World) (c0 c1 c2 c3 c4 c5 c6 c7 mv : Value) (ss : List Sta) (X : World) : Prop where
  bel : Below w.heap.size w X
  blk : Blk X w.heap.size c0 c1 c2 c3 c4 c5 c6 c7
  res : Two X (w.heap.size + 1) (.slice none 0 0) (.int .i64 0) 56
  m : MAt X (w.heap.size + 1 + 1) (w.heap.size + 1 + 1 + 1) mv ss
theorem OKp.drew {w : World} {c0 c1 c2 c3 c4 c5 c6 c7 mv : Value} {ss : List Sta} {X : World} (h : OKp w c0 c1 c2 c3 c4 c5 c6 c7 mv ss X) : OKp w c0 c1 c2 c3 c4 c5 c6 c7 mv ss X.drew :=
  ⟨h.bel.drew, h.blk.drew, h.res, h.m.later ((Below.refl _ X).drew)⟩
theorem OKp.size {w : World} {c0 c1 c2 c3 c4 c5 c6 c7 mv : Value} {ss : List Sta} {X : World} (h : OKp w c0 c1 c2 c3 c4 c5 c6 c7 mv ss X) : w.heap.size + 1 + 1 + 1 ≤ X.heap.size := by have := h.m.plt; omega
theorem OKp.mg {w : World} {c0 c1 c2 c3 c4 c5 c6 c7 mv mv' : Value} {ss ss' : List Sta} {X Y : World} (h : OKp w c0 c1 c2 c3 c4 c5 c6 c7 mv ss X) (hg : Mg (w.heap.size + 1 + 1) mv mv' X Y) (hm : MAt Y (w.heap.size + 1 + 1) (w.heap.size + 1 + 1 + 1) mv' ss') : OKp w c0 c1 c2 c3 c4 c5 c6 c7 mv' ss' Y := by
  have hs := h.size
  have ho : ∀ k, k < w.heap.size + 1 + 1 + 1 → some k ≠ mv.ownBlock := fun k hk e => by have := (h.m.own.lt k e.symm).1; omega
  exact ⟨h.bel.trans ((hg.below h.m).mono (by omega)), h.blk.mg hg (by omega) (ho _ (by omega)), h.res.keep (hg.same _ (by omega) (by omega) (ho _ (by omega))), hm⟩
def t00 : Sta := ⟨0, none_, 0, 0⟩
theorem add_kept {w : World} {c0 c1 c2 c3 c4 c5 c6 c7 : Value} {X : World} (h : OKp w c0 c1 c2 c3 c4 c5 c6 c7 (.slice none 0 0) [] X) :
    Calls Try.prog 43 #[.pointer (some ⟨w.heap.size + 1 + 1, 0, none⟩), .agg #[.int .i64 0, .int .u64 0, .int .u64 0, .int .u64 0, .int .u64 0, .int .i64 0, .int .i64 0]] X fun e w' => ∃ mv', e = .returned (.int .i64 0) ∧ OKp w c0 c1 c2 c3 c4 c5 c6 c7 mv' [t00] w' := by
  refine (add_plain 0 0 0 _ _ _ [] X h.m (by show 0 < _; omega) h.size).mono ?_
  rintro e w' ⟨mv', rfl, hm, hg⟩
  exact ⟨mv', rfl, h.mg hg hm⟩
theorem lay_kept {w : World} {c0 c1 c2 c3 c4 c5 c6 c7 mv : Value} {X : World} (x : Nd) (A : Nat → Prop) (v : Value) (hx : NodeAt w A v x) (hc : cntN x ≤ 1048576) (hr : rightN x = true) (h : OKp w c0 c1 c2 c3 c4 c5 c6 c7 mv [t00] X) :
    Calls Try.prog 42 #[.pointer (some ⟨w.heap.size + 1 + 1, 0, none⟩), v, .int .i64 0] X fun e w' => ∃ (q : Nat) (mv' : Value) (ss : List Sta), e = .returned (.int .i64 q) ∧ OKp w c0 c1 c2 c3 c4 c5 c6 c7 mv' ss w' ∧ Mach x ss q := by
  unfold rightN at hr
  simp only [Bool.and_eq_true, decide_eq_true_eq] at hr
  have hn : NodeAt X (· < w.heap.size + 1 + 1) v x := hx.keep fun b _ hlt => ⟨h.bel.block b hlt, by omega⟩
  refine (lay_any (cntN x) x (Nat.le_refl _) hc 201 hr.2 v _ _ mv [t00] 0 X hn h.m (by decide) h.size (by show 1 + _ ≤ _; omega)).mono ?_
  rintro e w' ⟨q, mv', ss', rfl, hm, hg, hl, hlen⟩
  have h1 : 1 ≤ ss'.length := hl.len
  refine ⟨q, mv', ss', rfl, h.mg hg hm, ⟨t00, hl.old 0 (by decide), rfl⟩, fun i t hi ht => hl.wf i t hi ht, fun i t ht => ?_, hl.at_, fun s => hl.good ss' (fun _ _ _ => rfl) s, ?_⟩
  · cases i with
    | zero =>
      rw [hl.old 0 (by decide)] at ht
      cases ht
      exact ⟨by decide, h1, h1⟩
    | succ i =>
      have := hl.wf (i + 1) t (by simp) ht
      omega
  · replace hlen : ss'.length ≤ 1 + (2 * sizeN x - 1) := hlen
    omega

set_option maxHeartbeats 4000000 in
theorem layOut_any (x : Nd) (v : Value) (w : World) (A : Nat → Prop) (hx : NodeAt w A v x) (hc : cntN x ≤ 1048576) (hr : rightN x = true) :
    Calls Try.prog 33 #[v] w fun e w' => ∃ (q : Nat) (mv : Value) (ss : List Sta), e = .returned (.agg #[mv, .int .i64 q]) ∧ w'.ownsRow w.heap.size 67 7 mv ss.length (cells7 ss) ∧ Below w.heap.size w w' ∧ Mach x ss q := by
  have HX := hidden hx
  obtain ⟨z, y0, y1, y2, y3, sa, sn, sc, lo, hi, rfl⟩ := hx.shapeI
  have HZ0 := hidden (Blk.new w (.int .i64 z) (.int .u64 y0) (.int .u64 y1) (.int .u64 y2) (.int .u64 y3) (.slice sa sn sc) (.int .i64 lo) (.int .i64 hi))
  have HB0 := hidden (Below.refl w.heap.size w)
  clear hx
  go_enter Try.func33, Try.ntmps33
  go_upto_region 2 with fail
  generalize hW2 : World.alloc _ _ = W2
  have hK : OKp w (.int .i64 z) (.int .u64 y0) (.int .u64 y1) (.int .u64 y2) (.int .u64 y3) (.slice sa sn sc) (.int .i64 lo) (.int .i64 hi) (.slice none 0 0) [] W2 := by
    rw [← hW2]
    refine ⟨by (with_reducible (repeat (first | exact HB0.out | apply bel_alloc | apply bel_put | apply bel_set | apply Below.drew | apply below_drewN | omega))), by (with_reducible (repeat (first | exact HZ0.out | exact Blk.newAt (by simp) | apply Blk.alloc | apply Blk.put | apply Blk.putOther | apply Blk.other | apply Blk.drewN | apply Blk.drew | omega))), ?_, ⟨?_, World.ownsRow_nil _ _ _ _, by omega⟩⟩
    · exact (Two.newAt (by simp)).keep (Below.heap_alloc _ _ _ (by simp))
    · exact Two.newAt (by simp)
  obtain ⟨b0, b1, b2, b3, b4, b5, b6, b7⟩ := hK.blk.cells
  have hbl := hK.blk.lt
  clear hW2
  go_region_with (first
    | (go_at_call 43; refine (add_kept (w := w) (c0 := .int .i64 z) (c1 := .int .u64 y0) (c2 := .int .u64 y1) (c3 := .int .u64 y2) (c4 := .int .u64 y3) (c5 := .slice sa sn sc) (c6 := .int .i64 lo) (c7 := .int .i64 hi) ?_).mono ?_; (· repeat (first | assumption | apply OKp.drew)); rintro e w3 ⟨mv3, rfl, hK3⟩; obtain ⟨d0, d1, d2, d3, d4, d5, d6, d7⟩ := hK3.blk.cells; have hdl := hK3.blk.lt)
    | (go_at_call 42; refine (lay_kept (w := w) (c0 := .int .i64 z) (c1 := .int .u64 y0) (c2 := .int .u64 y1) (c3 := .int .u64 y2) (c4 := .int .u64 y3) (c5 := .slice sa sn sc) (c6 := .int .i64 lo) (c7 := .int .i64 hi) (mv := mv3) x A _ HX.out hc hr ?_).mono ?_; (· repeat (first | assumption | apply OKp.drew)); rintro e w4 ⟨q4, mv4, ss4, rfl, hK4, hMc⟩; have cc4 : w4.cell? ⟨w.heap.size + 1 + 1, 1, none⟩ = some (.int .i64 0) := (by simp [World.cell?, hK4.m.blk]); have ff4 : w4.frozen? ⟨w.heap.size + 1 + 1, 1, none⟩ = false := (by simp [World.frozen?, hK4.m.blk])))
  all_goals
    obtain ⟨g4, cp4, rfl, hcp4⟩ := hK4.m.form (by have := hMc.at_; omega)
    obtain ⟨e0, e1⟩ := hK4.res.cells
    obtain ⟨f0, f1⟩ := hK4.res.thawed
    have el := hK4.res.lt
    have m0 : w4.cell? ⟨w.heap.size + 1 + 1, 0, none⟩ = some (.slice (some ⟨g4, 0, none⟩) ss4.length cp4) := by simp [World.cell?, hK4.m.blk]
    have hsz4 := hK4.size
    have hg4 := hK4.m.own.lt g4 rfl
    have HK4 := hidden hK4
    have HMc := hidden hMc
    clear hK4 hMc hK3 hK b0 b1 b2 b3 b4 b5 b6 b7 d0 d1 d2 d3 d4 d5 d6 d7
    go_wp2_with fail
    refine bodyPost_ret (results_two1 rfl _ _ (w.heap.size + 1) (.slice (some ⟨g4, 0, none⟩) ss4.length cp4) (.int .i64 q4) rfl (Two.put (HK4.out.res.keep (heap_setCell_other _ ⟨w.heap.size + 1 + 1, 1, none⟩ _ _ (by show w.heap.size + 1 ≠ w.heap.size + 1 + 1; omega))) _ _)) rfl ?_
    refine ⟨q4, _, ss4, rfl, ?_, ?_, HMc.out⟩
    · exact owns_base (ownsRow_setCell_below (ownsRow_setCell_below (ownsRow_setCell_below HK4.out.m.own (a := ⟨w.heap.size + 1 + 1, 1, none⟩) (by show w.heap.size + 1 + 1 < _; omega) _) (a := ⟨w.heap.size + 1, 0, none⟩) (by show w.heap.size + 1 < _; omega) _) (a := ⟨w.heap.size + 1, 1, none⟩) (by show w.heap.size + 1 < _; omega) _) (by omega)
    · exact bel_set (bel_set (bel_set HK4.out.bel (by omega)) (by omega)) (by omega)

end Go.Proofs.Ytjlihidmohokhaa
