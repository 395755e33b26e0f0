
/-
  What the document's own walk answers at any two lists of steps that lie in memory; conditions: the lists' and texts' lengths.
-/
import Derived.Test.YtmbalnjobcgpkaaCKeep
import Derived.Test.YtmbalnjobcgpkaaORef
import Derived.Deep.CutRange
import Derived.Deep.CutBlock
import Derived.Deep.LoopGhost
import Derived.Sort.AtCall
namespace Go.Proofs.Ytmbalnjobcgpkaa
open Go.RowKit Go.Proofs.Ytmbalnjobcgpkaa.Ln Go.Proofs.Ytmbalnjobcgpkaa.Ol

theorem fit_onn {l : List Oq} {n : Int} (h : Fit l) : Fit (onn l n) := by
  cases l with
  | nil => exact h
  | cons x r =>
    rw [onn_cons]
    split
    · intro y hy
      rcases List.mem_cons.1 hy with rfl | hy
      · simp
      · exact h y (by simp [hy])
    · exact fun y hy => h y (by simp [hy])
theorem OpsAt.behind1 {w : World} {b o : Nat} {x : Oq} {l : List Oq} (h : OpsAt w (.slice (some ⟨b, o, none⟩) (l.length + 1) 1) (x :: l)) : OpsAt w (.slice (some ⟨b, o, none⟩) 0 0) l := by
  have h1 := h.room
  have h0 : l.length = 0 := by omega
  have h2 := OpsAt.behind h
  rw [if_pos rfl, h0] at h2
  exact h2
theorem OpsAt.behind3 {w : World} {b o cap : Nat} {x : Oq} {l : List Oq} (h : OpsAt w (.slice (some ⟨b, o, none⟩) (l.length + 1) cap) (x :: l)) (hc : ¬ cap = 1) : OpsAt w (.slice (some ⟨b, o + 3, none⟩) l.length (cap - 1)) l := by
  have h2 := OpsAt.behind h
  rw [if_neg hc] at h2
  exact h2
theorem onn_less {p q : List Oq} (op : Ok p) (oq : Ok q) (h0 : ¬ (p.isEmpty && q.isEmpty) = true) : (onn p (wkN (hdO p) (hdO q))).length + (onn q (wkN (hdO p) (hdO q))).length < p.length + q.length := by
  have bhp := op.hd.2
  have bhq := oq.hd.2
  have l1 := onn_len p (wkN (hdO p) (hdO q))
  have l2 := onn_len q (wkN (hdO p) (hdO q))
  have hd0 : (hdO ([] : List Oq)).2.1 = 1099511627776 := rfl
  have hd1 : (hdO ([] : List Oq)).1 = 1 := rfl
  by_cases hss : (hdO p).1 = 1 ∧ (hdO q).1 = 1
  · have hN : wkN (hdO p) (hdO q) = min (hdO p).2.1 (hdO q).2.1 := by unfold wkN; rw [if_pos hss]
    by_cases hle : (hdO p).2.1 ≤ (hdO q).2.1
    · by_cases hpe : p = []
      · have hqe : q ≠ [] := fun h => h0 (by rw [hpe, h]; rfl)
        have := onn_drop hqe (n := wkN (hdO p) (hdO q)) (Or.inr (by rw [hN]; rw [hpe, hd0] at hle ⊢; omega))
        omega
      · have := onn_drop hpe (n := wkN (hdO p) (hdO q)) (Or.inr (by rw [hN]; omega))
        omega
    · have hqe : q ≠ [] := fun h => by rw [h, hd0] at hle; omega
      have := onn_drop hqe (n := wkN (hdO p) (hdO q)) (Or.inr (by rw [hN]; omega))
      omega
  · by_cases hp1 : (hdO p).1 = 1
    · have hqe : q ≠ [] := fun h => hss ⟨hp1, by rw [h]; rfl⟩
      have := onn_drop hqe (n := wkN (hdO p) (hdO q)) (Or.inl (fun h => hss ⟨hp1, h⟩))
      omega
    · have hpe : p ≠ [] := fun h => hp1 (by rw [h]; rfl)
      have := onn_drop hpe (n := wkN (hdO p) (hdO q)) (Or.inl hp1)
      omega
/-- where the walk stands -/
structure Wst (w : World) (F : Nat) (R : Option (List (Oq × Int) × Bool)) (p q : List Oq) (o : List (Oq × Int)) (m e : Bool) (f : Nat) (vp vq vo : Value) (W : World) : Prop where
  kw : KW w p q o vp vq vo W
  op : Ok p
  oq : Ok q
  fp : Fit p
  fq : Fit q
  lt : p.length + q.length < f
  ln : o.length + p.length + q.length ≤ F
  eq : R = (wk f e p q).map fun r => (o ++ r.1, m || r.2)
/-- the walk's answer -/
def WAns (w : World) (r : Option (List (Oq × Int) × Bool)) (e : Ending) (w' : World) : Prop :=
  (match r with
    | none => e = .returned (.tuple #[.slice none 0 0, .bool false, .bool false])
    | some r => ∃ vo, e = .returned (.tuple #[vo, .bool r.2, .bool true]) ∧ ByAt w' vo r.1) ∧ Below w.heap.size w w'
theorem ok_tail {x : Oq} {l : List Oq} (h : Ok (x :: l)) : Ok l := fun y hy => h y (by simp [hy])
theorem fit_tail {x : Oq} {l : List Oq} (h : Fit (x :: l)) : Fit l := fun y hy => h y (by simp [hy])
theorem wk_del (f : Nat) (e : Bool) (n : Int) (t : Tx) (p q : List Oq) : wk (f + 1) e ((3, n, t) :: p) q = (wk f e p q).map fun r => (((3, n, t), 1) :: r.1, r.2) := by rw [wk]; rfl
theorem wk_ins (f : Nat) (e : Bool) (n : Int) (t : Tx) (p q : List Oq) (h : (hdO p).1 ≠ 3) : wk (f + 1) e p ((4, n, t) :: q) = (wk f e p q).map fun r => (((4, n, t), 2) :: r.1, r.2) := by
  rw [wk, if_neg (by simp), if_neg h]; rfl
theorem wk_nil (f : Nat) (e : Bool) : wk (f + 1) e [] [] = some ([], false) := by rw [wk]; rfl
theorem wk_end (f : Nat) (p q : List Oq) (h : ¬ (p.isEmpty && q.isEmpty) = true) (h3 : (hdO p).1 ≠ 3) (h4 : (hdO q).1 ≠ 4) : wk (f + 1) true p q = none := by
  rw [wk, if_neg h, if_neg h3, if_neg h4, if_pos rfl]
theorem wk_mid (f : Nat) (p q : List Oq) (h : ¬ (p.isEmpty && q.isEmpty) = true) (h3 : (hdO p).1 ≠ 3) (h4 : (hdO q).1 ≠ 4) (hc : ¬ ((hdO p).1 ≠ 1 ∧ (hdO q).1 ≠ 1 ∧ (hdO p).2.2 ≠ (hdO q).2.2)) : wk (f + 1) false p q = (wk f (opn (hdO p) || opn (hdO q)) (onn p (wkN (hdO p) (hdO q))) (onn q (wkN (hdO p) (hdO q)))).map fun r => (wkO (hdO p) (hdO q) (wkN (hdO p) (hdO q)) ++ r.1, ((hdO p).1 == 4 && (hdO q).1 == 3) || r.2) := by
  rw [wk, if_neg h, if_neg h3, if_neg h4, if_neg (by simp), if_neg hc]
theorem wk_off (f : Nat) (p q : List Oq) (h : ¬ (p.isEmpty && q.isEmpty) = true) (h3 : (hdO p).1 ≠ 3) (h4 : (hdO q).1 ≠ 4) (hc : (hdO p).1 ≠ 1 ∧ (hdO q).1 ≠ 1 ∧ (hdO p).2.2 ≠ (hdO q).2.2) : wk (f + 1) false p q = none := by
  rw [wk, if_neg h, if_neg h3, if_neg h4, if_neg (by simp), if_pos hc]
theorem map_mid (w : Option (List (Oq × Int) × Bool)) (o k : List (Oq × Int)) (m b : Bool) : (w.map fun r => (k ++ r.1, b || r.2)).map (fun r => (o ++ r.1, m || r.2)) = w.map fun r => ((o ++ k) ++ r.1, (m || b) || r.2) := by
  cases w with
  | none => rfl
  | some r => simp [Bool.or_assoc]
theorem map_step (w : Option (List (Oq × Int) × Bool)) (o : List (Oq × Int)) (m : Bool) (x : Oq × Int) : (w.map fun r => (x :: r.1, r.2)).map (fun r => (o ++ r.1, m || r.2)) = w.map fun r => ((o ++ [x]) ++ r.1, m || r.2) := by
  cases w with
  | none => rfl
  | some r => simp

/-- what lies in memory while a line of the middle is told: both lists, the row, and both heads -/
structure KX (w : World) (p q : List Oq) (o : List (Oq × Int)) (vp vq vo : Value) (X Y : Oq) (bx bY : Nat) (W : World) : Prop where
  kw : KW w p q o vp vq vo W
  lx : bx < W.heap.size
  ly : bY < W.heap.size
  x1 : W.cell? ⟨bx, 0, none⟩ = some (.int .i64 X.1)
  x2 : W.cell? ⟨bx, 1, none⟩ = some (.int .i64 X.2.1)
  x3 : W.cell? ⟨bx, 2, none⟩ = some (.string ⟨X.2.2.toArray⟩)
  y1 : W.cell? ⟨bY, 0, none⟩ = some (.int .i64 Y.1)
  y2 : W.cell? ⟨bY, 1, none⟩ = some (.int .i64 Y.2.1)
  y3 : W.cell? ⟨bY, 2, none⟩ = some (.string ⟨Y.2.2.toArray⟩)
theorem cell_two (W : World) (a b : Obj) (i : Nat) : ((W.alloc a).alloc b).cell? ⟨W.heap.size, i, none⟩ = (W.alloc a).cell? ⟨W.heap.size, i, none⟩ :=
  (bel_alloc (Below.refl (W.alloc a).heap.size (W.alloc a)) b).cell (p := ⟨W.heap.size, i, none⟩) (by show W.heap.size < (W.alloc a).heap.size; simp)
theorem kx_new {w W : World} {p q : List Oq} {o : List (Oq × Int)} {vp vq vo : Value} (h : KW w p q o vp vq vo W) (x1 x2 y1 y2 : Int) (x3 y3 : Tx) : KX w p q o vp vq vo (x1, x2, x3) (y1, y2, y3) W.heap.size (W.heap.size + 1) ((W.alloc (opO x1 x2 x3)).alloc (opO y1 y2 y3)) := by
  refine ⟨(h.alloc _).alloc _, by simp; omega, by simp, ?_, ?_, ?_, ?_, ?_, ?_⟩
  · rw [cell_two]; simp
  · rw [cell_two]; simp
  · rw [cell_two]; simp
  · have e : W.heap.size + 1 = (W.alloc (opO x1 x2 x3)).heap.size := by simp
    rw [e]; simp
  · have e : W.heap.size + 1 = (W.alloc (opO x1 x2 x3)).heap.size := by simp
    rw [e]; simp
  · have e : W.heap.size + 1 = (W.alloc (opO x1 x2 x3)).heap.size := by simp
    rw [e]; simp

theorem wkO_len (x y : Oq) (n : Int) : (wkO x y n).length ≤ 1 := by
  unfold wkO
  repeat (split; · simp)
  simp

/-- the frame, as far as it matters -/
structure FrW (a : Act) (s0 s1 s7 s8 s9 s10 s11 s12 : Value) : Prop where
  size : a.tmps.size = 187
  e0 : a.tmps.getD 0 undef = s0
  e1 : a.tmps.getD 1 undef = s1
  e7 : a.tmps.getD 7 undef = s7
  e8 : a.tmps.getD 8 undef = s8
  e9 : a.tmps.getD 9 undef = s9
  e10 : a.tmps.getD 10 undef = s10
  e11 : a.tmps.getD 11 undef = s11
  e12 : a.tmps.getD 12 undef = s12
  marks : a.defers = []
theorem FrW_slots (tmps : Array Value) (h : tmps.size = 187) : tmps = #[tmps.getD 0 undef, tmps.getD 1 undef, tmps.getD 2 undef, tmps.getD 3 undef, tmps.getD 4 undef, tmps.getD 5 undef, tmps.getD 6 undef, tmps.getD 7 undef, tmps.getD 8 undef, tmps.getD 9 undef, tmps.getD 10 undef, tmps.getD 11 undef, tmps.getD 12 undef, tmps.getD 13 undef, tmps.getD 14 undef, tmps.getD 15 undef, tmps.getD 16 undef, tmps.getD 17 undef, tmps.getD 18 undef, tmps.getD 19 undef, tmps.getD 20 undef, tmps.getD 21 undef, tmps.getD 22 undef, tmps.getD 23 undef, tmps.getD 24 undef, tmps.getD 25 undef, tmps.getD 26 undef, tmps.getD 27 undef, tmps.getD 28 undef, tmps.getD 29 undef, tmps.getD 30 undef, tmps.getD 31 undef, tmps.getD 32 undef, tmps.getD 33 undef, tmps.getD 34 undef, tmps.getD 35 undef, tmps.getD 36 undef, tmps.getD 37 undef, tmps.getD 38 undef, tmps.getD 39 undef, tmps.getD 40 undef, tmps.getD 41 undef, tmps.getD 42 undef, tmps.getD 43 undef, tmps.getD 44 undef, tmps.getD 45 undef, tmps.getD 46 undef, tmps.getD 47 undef, tmps.getD 48 undef, tmps.getD 49 undef, tmps.getD 50 undef, tmps.getD 51 undef, tmps.getD 52 undef, tmps.getD 53 undef, tmps.getD 54 undef, tmps.getD 55 undef, tmps.getD 56 undef, tmps.getD 57 undef, tmps.getD 58 undef, tmps.getD 59 undef, tmps.getD 60 undef, tmps.getD 61 undef, tmps.getD 62 undef, tmps.getD 63 undef, tmps.getD 64 undef, tmps.getD 65 undef, tmps.getD 66 undef, tmps.getD 67 undef, tmps.getD 68 undef, tmps.getD 69 undef, tmps.getD 70 undef, tmps.getD 71 undef, tmps.getD 72 undef, tmps.getD 73 undef, tmps.getD 74 undef, tmps.getD 75 undef, tmps.getD 76 undef, tmps.getD 77 undef, tmps.getD 78 undef, tmps.getD 79 undef, tmps.getD 80 undef, tmps.getD 81 undef, tmps.getD 82 undef, tmps.getD 83 undef, tmps.getD 84 undef, tmps.getD 85 undef, tmps.getD 86 undef, tmps.getD 87 undef, tmps.getD 88 undef, tmps.getD 89 undef, tmps.getD 90 undef, tmps.getD 91 undef, tmps.getD 92 undef, tmps.getD 93 undef, tmps.getD 94 undef, tmps.getD 95 undef, tmps.getD 96 undef, tmps.getD 97 undef, tmps.getD 98 undef, tmps.getD 99 undef, tmps.getD 100 undef, tmps.getD 101 undef, tmps.getD 102 undef, tmps.getD 103 undef, tmps.getD 104 undef, tmps.getD 105 undef, tmps.getD 106 undef, tmps.getD 107 undef, tmps.getD 108 undef, tmps.getD 109 undef, tmps.getD 110 undef, tmps.getD 111 undef, tmps.getD 112 undef, tmps.getD 113 undef, tmps.getD 114 undef, tmps.getD 115 undef, tmps.getD 116 undef, tmps.getD 117 undef, tmps.getD 118 undef, tmps.getD 119 undef, tmps.getD 120 undef, tmps.getD 121 undef, tmps.getD 122 undef, tmps.getD 123 undef, tmps.getD 124 undef, tmps.getD 125 undef, tmps.getD 126 undef, tmps.getD 127 undef, tmps.getD 128 undef, tmps.getD 129 undef, tmps.getD 130 undef, tmps.getD 131 undef, tmps.getD 132 undef, tmps.getD 133 undef, tmps.getD 134 undef, tmps.getD 135 undef, tmps.getD 136 undef, tmps.getD 137 undef, tmps.getD 138 undef, tmps.getD 139 undef, tmps.getD 140 undef, tmps.getD 141 undef, tmps.getD 142 undef, tmps.getD 143 undef, tmps.getD 144 undef, tmps.getD 145 undef, tmps.getD 146 undef, tmps.getD 147 undef, tmps.getD 148 undef, tmps.getD 149 undef, tmps.getD 150 undef, tmps.getD 151 undef, tmps.getD 152 undef, tmps.getD 153 undef, tmps.getD 154 undef, tmps.getD 155 undef, tmps.getD 156 undef, tmps.getD 157 undef, tmps.getD 158 undef, tmps.getD 159 undef, tmps.getD 160 undef, tmps.getD 161 undef, tmps.getD 162 undef, tmps.getD 163 undef, tmps.getD 164 undef, tmps.getD 165 undef, tmps.getD 166 undef, tmps.getD 167 undef, tmps.getD 168 undef, tmps.getD 169 undef, tmps.getD 170 undef, tmps.getD 171 undef, tmps.getD 172 undef, tmps.getD 173 undef, tmps.getD 174 undef, tmps.getD 175 undef, tmps.getD 176 undef, tmps.getD 177 undef, tmps.getD 178 undef, tmps.getD 179 undef, tmps.getD 180 undef, tmps.getD 181 undef, tmps.getD 182 undef, tmps.getD 183 undef, tmps.getD 184 undef, tmps.getD 185 undef, tmps.getD 186 undef] := by
  have h1 : tmps.toList = (List.range 187).map (fun i => tmps.getD i undef) := by
    apply List.ext_getElem
    · simp [h]
    · intro i h2 h3
      simp at h2
      simp [h2]
  calc tmps = ⟨tmps.toList⟩ := rfl
    _ = ⟨(List.range 187).map (fun i => tmps.getD i undef)⟩ := by rw [h1]
    _ = _ := rfl
theorem FrW.frame {a : Act} {s0 s1 s7 s8 s9 s10 s11 s12 : Value} (h : FrW a s0 s1 s7 s8 s9 s10 s11 s12) : ∃ f : Nat → Value, (∀ i, a.tmps.getD i undef = f i) ∧ a = { tmps := #[s0, s1, f 2, f 3, f 4, f 5, f 6, s7, s8, s9, s10, s11, s12, f 13, f 14, f 15, f 16, f 17, f 18, f 19, f 20, f 21, f 22, f 23, f 24, f 25, f 26, f 27, f 28, f 29, f 30, f 31, f 32, f 33, f 34, f 35, f 36, f 37, f 38, f 39, f 40, f 41, f 42, f 43, f 44, f 45, f 46, f 47, f 48, f 49, f 50, f 51, f 52, f 53, f 54, f 55, f 56, f 57, f 58, f 59, f 60, f 61, f 62, f 63, f 64, f 65, f 66, f 67, f 68, f 69, f 70, f 71, f 72, f 73, f 74, f 75, f 76, f 77, f 78, f 79, f 80, f 81, f 82, f 83, f 84, f 85, f 86, f 87, f 88, f 89, f 90, f 91, f 92, f 93, f 94, f 95, f 96, f 97, f 98, f 99, f 100, f 101, f 102, f 103, f 104, f 105, f 106, f 107, f 108, f 109, f 110, f 111, f 112, f 113, f 114, f 115, f 116, f 117, f 118, f 119, f 120, f 121, f 122, f 123, f 124, f 125, f 126, f 127, f 128, f 129, f 130, f 131, f 132, f 133, f 134, f 135, f 136, f 137, f 138, f 139, f 140, f 141, f 142, f 143, f 144, f 145, f 146, f 147, f 148, f 149, f 150, f 151, f 152, f 153, f 154, f 155, f 156, f 157, f 158, f 159, f 160, f 161, f 162, f 163, f 164, f 165, f 166, f 167, f 168, f 169, f 170, f 171, f 172, f 173, f 174, f 175, f 176, f 177, f 178, f 179, f 180, f 181, f 182, f 183, f 184, f 185, f 186], defers := [] } := by
  refine ⟨fun i => a.tmps.getD i undef, fun _ => rfl, ?_⟩
  obtain ⟨tmps, defers⟩ := a
  have h1 := FrW_slots tmps h.size
  rw [h.e0, h.e1, h.e7, h.e8, h.e9, h.e10, h.e11, h.e12] at h1
  have h2 := h.marks
  simp only at h2
  rw [h2]
  exact congrArg (fun t => Act.mk t []) h1

set_option maxRecDepth 4000 in
set_option maxHeartbeats 20000000 in
theorem pwalk_any (v u : Value) (p0 q0 : List Oq) (w : World) (hP : OpsAt w v p0) (hQ : OpsAt w u q0) (hl : p0.length + q0.length ≤ 1099511627775) (hop : Ok p0) (hoq : Ok q0) (hfp : Fit p0) (hfq : Fit q0) :
    Calls Try.prog 34 #[v, u] w fun e w' => WAns w (wk (p0.length + q0.length + 1) false p0 q0) e w' := by
  obtain ⟨F, hF⟩ : ∃ F, p0.length + q0.length = F := ⟨_, rfl⟩
  obtain ⟨R, hR⟩ : ∃ R, wk (F + 1) false p0 q0 = R := ⟨_, rfl⟩
  rw [hF, hR]
  have HST := hidden (show Wst w F R p0 q0 [] false false (F + 1) v u (.slice none 0 0) w from
    ⟨⟨Below.refl _ _, hP, hQ, World.ownsRow_nil _ _ _ _, (fun _ b _ e => by cases e), (fun _ b _ e => by cases e)⟩, hop, hoq, hfp, hfq, by omega, by simp; omega, by
      rw [hR]
      cases R with
      | none => rfl
      | some r => simp⟩)
  rw [hF] at hl
  obtain ⟨ao, cap, rfl⟩ := hP.shape
  obtain ⟨bo, cap2, rfl⟩ := hQ.shape
  have HFF := hidden hF
  clear hP hQ hop hoq hfp hfq hF hR
  go_enter Try.func34, Try.ntmps34
  go_wp2_with fail
  refine wp_loop_ghost_k (fun g a' wr => ∃ (p q : List Oq) (o : List (Oq × Int)) (m e : Bool) (f : Nat) (vp vq vo s10 s11 s12 : Value), FrW a' vp vq vo (.bool m) (.bool e) s10 s11 s12 ∧ Hid (g = p.length + q.length ∧ Wst w F R p q o m e f vp vq vo wr)) F ?start ?round
  case start => exact ⟨p0, q0, [], false, false, _, _, _, _, _, _, _, ⟨rfl, rfl, rfl, rfl, rfl, rfl, rfl, rfl, rfl, rfl⟩, ⟨HFF.out.symm, HST.out⟩⟩
  case round =>
    intro gk _ wr hinv
    obtain ⟨p, q, o, m, e, f, u0, u1, u7, u10, u11, u12, hfr, hgs⟩ := hinv
    obtain ⟨ff, hff, ha⟩ := hfr.frame
    clear hff hfr
    subst ha
    try dsimp only
    intro _ _ _ _
    have HG := hidden hgs.out.1
    have HS := hidden hgs.out.2
    clear hgs
    have hws := HS.out.kw.bel.size
    have HEQ := hidden HS.out.eq
    obtain ⟨f', hf'⟩ : ∃ f', f = f' + 1 := ⟨f - 1, by have := HS.out.lt; omega⟩
    subst hf'
    by_cases hpq : p = [] ∧ q = []
    · obtain ⟨rfl, rfl⟩ := hpq
      obtain ⟨pa, pc, rfl⟩ : ∃ a c, u0 = .slice a 0 c := HS.out.kw.pa.shape
      obtain ⟨qa, qc, rfl⟩ : ∃ a c, u1 = .slice a 0 c := HS.out.kw.qa.shape
      have HQ := hidden (show R = some (o, m) by rw [HEQ.out, wk_nil]; simp)
      go_wp2_with fail
      go_ret3
      exact ⟨by rw [HQ.out]; exact ⟨_, rfl, ByAt.of_owns HS.out.kw.oo⟩, HS.out.kw.bel⟩
    obtain ⟨pa, pc, rfl⟩ := HS.out.kw.pa.shape
    obtain ⟨qa, qc, rfl⟩ := HS.out.kw.qa.shape
    have HNE := hidden (show ¬ (p.isEmpty && q.isEmpty) = true by
      intro h
      rw [Bool.and_eq_true, List.isEmpty_iff, List.isEmpty_iff] at h
      exact hpq h)
    have hp0 : p = [] → 0 < q.length := fun h => List.length_pos_iff.2 (fun h2 => hpq ⟨h, h2⟩)
    have HP0 := hidden hp0
    clear hpq hp0
    go_upto_region 4 with fail
    refine wp_cut (fun a' wx => FrW a' (.slice pa p.length pc) (.slice qa q.length qc) u7 (.bool m) (.bool e) u10 u11 u12 ∧ a'.tmps.getD 20 undef = .bool true ∧ wr = wx) ?rest ?first
    case first =>
      intro _ _ _ _
      by_cases hp : p = []
      · have hq := HP0.out hp
        subst hp
        simp only [List.length_nil]
        go_wp2_with fail
        refine Met.intro ?_
        go_step
        exact ⟨⟨rfl, rfl, rfl, rfl, rfl, rfl, rfl, rfl, rfl, rfl⟩, rfl, rfl⟩
      · have hp1 : 0 < p.length := List.length_pos_iff.2 hp
        clear hp
        go_wp2_with fail
        refine Met.intro ?_
        go_step
        exact ⟨⟨rfl, rfl, rfl, rfl, rfl, rfl, rfl, rfl, rfl, rfl⟩, rfl, rfl⟩
    case rest =>
    intro _ wc hinv
    obtain ⟨hfr, hv, rfl⟩ := hinv
    obtain ⟨ff, hff, ha⟩ := hfr.frame
    rw [hff 20] at hv
    clear hff hfr
    subst ha
    try dsimp only
    rw [hv]
    clear hv
    clear HP0
    go_upto_region 5 with fail
    refine wp_cut (fun a' wx => FrW a' (.slice pa p.length pc) (.slice qa q.length qc) u7 (.bool m) (.bool e) u10 u11 u12 ∧ a'.tmps.getD 30 undef = .bool ((hdO p).1 == 3) ∧ wr = wx) ?rest ?first
    case first =>
      intro _ _ _ _
      cases p with
      | nil =>
        simp only [List.length_nil]
        go_wp2_with fail
        refine Met.intro ?_
        go_step
        exact ⟨⟨rfl, rfl, rfl, rfl, rfl, rfl, rfl, rfl, rfl, rfl⟩, rfl, rfl⟩
      | cons x p =>
        obtain ⟨x1, x2, x3⟩ := x
        obtain ⟨b1, o1, cp1, he, hcp1, hb1, c1, c2, c3⟩ := HS.out.kw.pa.first
        simp only [List.length_cons] at he c1 c2 c3 ⊢
        cases he
        go_wp2_with fail
        refine Met.intro ?_
        go_step
        exact ⟨⟨rfl, rfl, rfl, rfl, rfl, rfl, rfl, rfl, rfl, rfl⟩, rfl, rfl⟩
    case rest =>
    intro _ wc hinv
    obtain ⟨hfr, hv, rfl⟩ := hinv
    obtain ⟨ff, hff, ha⟩ := hfr.frame
    rw [hff 30] at hv
    clear hff hfr
    subst ha
    try dsimp only
    rw [hv]
    clear hv
    by_cases h3 : (hdO p).1 = 3
    · rw [show ((hdO p).1 == 3) = true by simpa using h3]
      cases p with
      | nil => simp [hdO] at h3
      | cons x p =>
        obtain ⟨x1, x2, x3⟩ := x
        simp only [hdO] at h3
        subst h3
        obtain ⟨b1, o1, cp1, he, hcp1, hb1, c1, c2, c3⟩ := HS.out.kw.pa.first
        simp only [List.length_cons] at he c1 c2 c3 ⊢
        cases he
        have hlo := HS.out.ln
        have HE2 := hidden (show R = (wk f' e p q).map fun r => ((o ++ [((3, x2, x3), 1)]) ++ r.1, m || r.2) by rw [HEQ.out, wk_del, map_step])
        by_cases hc1 : pc = 1
        · subst hc1
          have HB := hidden HS.out.kw.pa.behind1
          go_wp2_with (at_builtin; go_must (refine wpList_append_by _ (by go_simp) (.tmp 31) (.tmp 36) rfl w.heap.size _ o 3 x2 x3 1 wr wr.heap.size rfl rfl rfl rfl (HS.out.kw.oo.alloc _) (by simp at hlo; omega) (by simp; omega) ?_; intro v9 w9 hown9 hg9 hv9))
          have hk1 := KW.add (HS.out.kw.alloc (byB 3 x2 x3 1)) hown9 hg9 hv9
          have HK := hidden (show KW w p q (o ++ [((3, x2, x3), 1)]) (.slice (some ⟨b1, o1, none⟩) 0 0) (.slice qa q.length qc) v9 w9 from KW.goP hk1 (Below.refl _ _) (OpsAt.behind1 hk1.pa) (fun _ => by simp) (fun b h => Or.inl h))
          clear hk1 hown9 hg9 hv9
          refine Handed.intro (p.length + q.length) (by have := HG.out; simp at this; omega) ?_
          go_step
          exact ⟨p, q, o ++ [((3, x2, x3), 1)], m, e, f', _, _, _, _, _, _, ⟨rfl, rfl, rfl, rfl, rfl, rfl, rfl, rfl, rfl, rfl⟩, ⟨rfl, ⟨HK.out, ok_tail HS.out.op, HS.out.oq, fit_tail HS.out.fp, HS.out.fq, by have := HS.out.lt; simp at this; omega, by simp at hlo ⊢; omega, HE2.out⟩⟩⟩
        · go_wp2_with (at_builtin; go_must (refine wpList_append_by _ (by go_simp) (.tmp 31) (.tmp 36) rfl w.heap.size _ o 3 x2 x3 1 wr wr.heap.size rfl rfl rfl rfl (HS.out.kw.oo.alloc _) (by simp at hlo; omega) (by simp; omega) ?_; intro v9 w9 hown9 hg9 hv9))
          have hk1 := KW.add (HS.out.kw.alloc (byB 3 x2 x3 1)) hown9 hg9 hv9
          have HK := hidden (show KW w p q (o ++ [((3, x2, x3), 1)]) (.slice (some ⟨b1, o1 + 3, none⟩) p.length (pc - 1)) (.slice qa q.length qc) v9 w9 from KW.goP hk1 (Below.refl _ _) (OpsAt.behind3 hk1.pa hc1) (fun _ => by simp) (fun b h => Or.inl h))
          clear hk1 hown9 hg9 hv9
          refine Handed.intro (p.length + q.length) (by have := HG.out; simp at this; omega) ?_
          go_step
          exact ⟨p, q, o ++ [((3, x2, x3), 1)], m, e, f', _, _, _, _, _, _, ⟨rfl, rfl, rfl, rfl, rfl, rfl, rfl, rfl, rfl, rfl⟩, ⟨rfl, ⟨HK.out, ok_tail HS.out.op, HS.out.oq, fit_tail HS.out.fp, HS.out.fq, by have := HS.out.lt; simp at this; omega, by simp at hlo ⊢; omega, HE2.out⟩⟩⟩
    rw [show ((hdO p).1 == 3) = false by simpa using h3]
    have H3 := hidden h3
    clear h3
    go_upto_region 8 with fail
    refine wp_cut (fun a' wx => FrW a' (.slice pa p.length pc) (.slice qa q.length qc) u7 (.bool m) (.bool e) u10 u11 u12 ∧ a'.tmps.getD 49 undef = .bool ((hdO q).1 == 4) ∧ wr = wx) ?rest ?first
    case first =>
      intro _ _ _ _
      cases q with
      | nil =>
        simp only [List.length_nil]
        go_wp2_with fail
        refine Met.intro ?_
        go_step
        exact ⟨⟨rfl, rfl, rfl, rfl, rfl, rfl, rfl, rfl, rfl, rfl⟩, rfl, rfl⟩
      | cons y q =>
        obtain ⟨y1, y2, y3⟩ := y
        obtain ⟨b2, o2, cp2, he, hcp2, hb2, d1, d2, d3⟩ := HS.out.kw.qa.first
        simp only [List.length_cons] at he d1 d2 d3 ⊢
        cases he
        go_wp2_with fail
        refine Met.intro ?_
        go_step
        exact ⟨⟨rfl, rfl, rfl, rfl, rfl, rfl, rfl, rfl, rfl, rfl⟩, rfl, rfl⟩
    case rest =>
    intro _ wc hinv
    obtain ⟨hfr, hv, rfl⟩ := hinv
    obtain ⟨ff, hff, ha⟩ := hfr.frame
    rw [hff 49] at hv
    clear hff hfr
    subst ha
    try dsimp only
    rw [hv]
    clear hv
    by_cases h4 : (hdO q).1 = 4
    · rw [show ((hdO q).1 == 4) = true by simpa using h4]
      cases q with
      | nil => simp [hdO] at h4
      | cons y q =>
        obtain ⟨y1, y2, y3⟩ := y
        simp only [hdO] at h4
        subst h4
        obtain ⟨b2, o2, cp2, he, hcp2, hb2, d1, d2, d3⟩ := HS.out.kw.qa.first
        simp only [List.length_cons] at he d1 d2 d3 ⊢
        cases he
        have hlo := HS.out.ln
        have HE2 := hidden (show R = (wk f' e p q).map fun r => ((o ++ [((4, y2, y3), 2)]) ++ r.1, m || r.2) by rw [HEQ.out, wk_ins _ _ _ _ _ _ H3.out, map_step])
        by_cases hc1 : qc = 1
        · subst hc1
          go_wp2_with (at_builtin; go_must (refine wpList_append_by _ (by go_simp) (.tmp 50) (.tmp 55) rfl w.heap.size _ o 4 y2 y3 2 wr wr.heap.size rfl rfl rfl rfl (HS.out.kw.oo.alloc _) (by simp at hlo; omega) (by simp; omega) ?_; intro v9 w9 hown9 hg9 hv9))
          have hk1 := KW.add (HS.out.kw.alloc (byB 4 y2 y3 2)) hown9 hg9 hv9
          have HK := hidden (show KW w p q (o ++ [((4, y2, y3), 2)]) (.slice pa p.length pc) (.slice (some ⟨b2, o2, none⟩) 0 0) v9 w9 from KW.goQ hk1 (Below.refl _ _) (OpsAt.behind1 hk1.qa) (fun _ => by simp) (fun b h => Or.inl h))
          clear hk1 hown9 hg9 hv9
          refine Handed.intro (p.length + q.length) (by have := HG.out; simp at this; omega) ?_
          go_step
          exact ⟨p, q, o ++ [((4, y2, y3), 2)], m, e, f', _, _, _, _, _, _, ⟨rfl, rfl, rfl, rfl, rfl, rfl, rfl, rfl, rfl, rfl⟩, ⟨rfl, ⟨HK.out, HS.out.op, ok_tail HS.out.oq, HS.out.fp, fit_tail HS.out.fq, by have := HS.out.lt; simp at this; omega, by simp at hlo ⊢; omega, HE2.out⟩⟩⟩
        · go_wp2_with (at_builtin; go_must (refine wpList_append_by _ (by go_simp) (.tmp 50) (.tmp 55) rfl w.heap.size _ o 4 y2 y3 2 wr wr.heap.size rfl rfl rfl rfl (HS.out.kw.oo.alloc _) (by simp at hlo; omega) (by simp; omega) ?_; intro v9 w9 hown9 hg9 hv9))
          have hk1 := KW.add (HS.out.kw.alloc (byB 4 y2 y3 2)) hown9 hg9 hv9
          have HK := hidden (show KW w p q (o ++ [((4, y2, y3), 2)]) (.slice pa p.length pc) (.slice (some ⟨b2, o2 + 3, none⟩) q.length (qc - 1)) v9 w9 from KW.goQ hk1 (Below.refl _ _) (OpsAt.behind3 hk1.qa hc1) (fun _ => by simp) (fun b h => Or.inl h))
          clear hk1 hown9 hg9 hv9
          refine Handed.intro (p.length + q.length) (by have := HG.out; simp at this; omega) ?_
          go_step
          exact ⟨p, q, o ++ [((4, y2, y3), 2)], m, e, f', _, _, _, _, _, _, ⟨rfl, rfl, rfl, rfl, rfl, rfl, rfl, rfl, rfl, rfl⟩, ⟨rfl, ⟨HK.out, HS.out.op, ok_tail HS.out.oq, HS.out.fp, fit_tail HS.out.fq, by have := HS.out.lt; simp at this; omega, by simp at hlo ⊢; omega, HE2.out⟩⟩⟩
    rw [show ((hdO q).1 == 4) = false by simpa using h4]
    have H4 := hidden h4
    clear h4
    -- both heads are told: x, y
    obtain ⟨x1, x2, x3, hx⟩ : ∃ x1 x2 x3, hdO p = (x1, x2, x3) := ⟨_, _, _, rfl⟩
    obtain ⟨y1, y2, y3, hy⟩ : ∃ y1 y2 y3, hdO q = (y1, y2, y3) := ⟨_, _, _, rfl⟩
    have HX := hidden hx
    have HY := hidden hy
    clear hx hy
    go_upto_if 63 with fail
    refine wp_cut (fun a' wx => FrW a' (.slice pa p.length pc) (.slice qa q.length qc) u7 (.bool m) (.bool e) (.pointer (some ⟨wr.heap.size, 0, none⟩)) (.pointer (some ⟨wr.heap.size + 1, 0, none⟩)) u12 ∧ (wr.alloc (opO x1 x2 x3)).alloc (opO 1 1099511627776 []) = wx) ?rest ?first
    case first =>
      intro _ _ _ _
      cases p with
      | nil =>
        have hx := HX.out
        simp only [hdO, Prod.mk.injEq] at hx
        obtain ⟨rfl, rfl, rfl⟩ := hx
        simp only [List.length_nil]
        go_wp2_with fail
        refine Met.intro ?_
        go_step
        exact ⟨⟨rfl, rfl, rfl, rfl, rfl, rfl, rfl, rfl, rfl, rfl⟩, rfl⟩
      | cons x p =>
        have hx := HX.out
        simp only [hdO] at hx
        subst hx
        obtain ⟨b1, o1, cp1, he, hcp1, hb1, c1, c2, c3⟩ := HS.out.kw.pa.first
        simp only [List.length_cons] at he c1 c2 c3 ⊢
        cases he
        go_wp2_with fail
        refine Met.intro ?_
        go_step
        exact ⟨⟨rfl, rfl, rfl, rfl, rfl, rfl, rfl, rfl, rfl, rfl⟩, rfl⟩
    case rest =>
    intro _ wc hinv
    obtain ⟨hfr, hcut⟩ := hinv
    obtain ⟨ff, hff, ha⟩ := hfr.frame
    clear hff hfr
    subst ha
    try dsimp only
    subst hcut
    go_upto_if 69 with fail
    refine wp_cut (fun a' wx => ∃ bx bY : Nat, FrW a' (.slice pa p.length pc) (.slice qa q.length qc) u7 (.bool m) (.bool e) (.pointer (some ⟨bx, 0, none⟩)) (.pointer (some ⟨bY, 0, none⟩)) u12 ∧ Hid (KX w p q o (.slice pa p.length pc) (.slice qa q.length qc) u7 (x1, x2, x3) (y1, y2, y3) bx bY wx)) ?rest ?first
    case first =>
      intro _ _ _ _
      have HKX := hidden (kx_new HS.out.kw x1 x2 y1 y2 x3 y3)
      cases q with
      | nil =>
        have hy := HY.out
        simp only [hdO, Prod.mk.injEq] at hy
        obtain ⟨rfl, rfl, rfl⟩ := hy
        simp only [List.length_nil]
        go_wp2_with fail
        refine Met.intro ?_
        go_step
        exact ⟨_, _, ⟨rfl, rfl, rfl, rfl, rfl, rfl, rfl, rfl, rfl, rfl⟩, HKX.out⟩
      | cons y q =>
        have hy := HY.out
        simp only [hdO] at hy
        subst hy
        obtain ⟨b2, o2, cp2, he, hcp2, hb2, d1, d2, d3⟩ := HS.out.kw.qa.first
        simp only [List.length_cons] at he d1 d2 d3 ⊢
        cases he
        go_wp2_with fail
        refine Met.intro ?_
        go_step
        exact ⟨_, _, ⟨rfl, rfl, rfl, rfl, rfl, rfl, rfl, rfl, rfl, rfl⟩, HKX.out⟩
    case rest =>
    intro _ wc hinv
    obtain ⟨bx, bY, hfr, HKX⟩ := hinv
    obtain ⟨ff, hff, ha⟩ := hfr.frame
    clear hff hfr
    subst ha
    try dsimp only
    cases e with
    | true =>
      have HQ := hidden (show R = none by rw [HEQ.out, wk_end _ _ _ HNE.out H3.out H4.out]; rfl)
      go_wp2_with fail
      go_ret3
      exact ⟨by rw [HQ.out]; exact rfl, HKX.out.kw.bel⟩
    | false =>
    have c1 := HKX.out.x1
    have c2 := HKX.out.x2
    have c3 := HKX.out.x3
    have d1 := HKX.out.y1
    have d2 := HKX.out.y2
    have d3 := HKX.out.y3
    have hlx := HKX.out.lx
    have hly := HKX.out.ly
    have hwc := HKX.out.kw.bel.size
    simp only at c1 c2 c3 d1 d2 d3
    have HFX := hidden (show x3.length ≤ 140737488355328 by
      cases p with
      | nil => have := HX.out; simp only [hdO, Prod.mk.injEq] at this; rw [← this.2.2]; simp
      | cons x p => have := HX.out; simp only [hdO] at this; have h := HS.out.fp x (by simp); rw [this] at h; exact h)
    have HFY := hidden (show y3.length ≤ 140737488355328 by
      cases q with
      | nil => have := HY.out; simp only [hdO, Prod.mk.injEq] at this; rw [← this.2.2]; simp
      | cons x q => have := HY.out; simp only [hdO] at this; have h := HS.out.fq x (by simp); rw [this] at h; exact h)
    have HAX := hidden (show (x1 = 1 ∧ 1 ≤ x2 ∧ x3 = []) ∨ ((x1 = 2 ∨ x1 = 4) ∧ x2 = 0) by
      have h := HS.out.op.hd.1
      have h3 := H3.out
      rw [HX.out] at h h3
      simp only [al0] at h h3
      rcases h with h | ⟨h, h5, _⟩
      · exact Or.inl h
      · exact Or.inr ⟨by omega, h5⟩)
    have HAY := hidden (show (y1 = 1 ∧ 1 ≤ y2 ∧ y3 = []) ∨ ((y1 = 2 ∨ y1 = 3) ∧ y2 = 0) by
      have h := HS.out.oq.hd.1
      have h3 := H4.out
      rw [HY.out] at h h3
      simp only [al0] at h h3
      rcases h with h | ⟨h, h5, _⟩
      · exact Or.inl h
      · exact Or.inr ⟨by omega, h5⟩)
    have HBX := hidden (show x2 ≤ 1099511627776 by have := HS.out.op.hd.2; rw [HX.out] at this; exact this)
    have HBY := hidden (show y2 ≤ 1099511627776 by have := HS.out.oq.hd.2; rw [HY.out] at this; exact this)
    go_upto_region 20 with fail
    refine wp_cut (fun a' wx => FrW a' (.slice pa p.length pc) (.slice qa q.length qc) u7 (.bool m) (.bool false) (.pointer (some ⟨bx, 0, none⟩)) (.pointer (some ⟨bY, 0, none⟩)) (.int .i64 1) ∧ a'.tmps.getD 81 undef = .bool (x1 == 1 && y1 == 1) ∧ wc = wx) ?rest ?first
    case first =>
      intro _ _ _ _
      by_cases h1 : x1 = 1
      · subst h1
        go_wp2_with fail
        refine Met.intro ?_
        go_step
        exact ⟨⟨rfl, rfl, rfl, rfl, rfl, rfl, rfl, rfl, rfl, rfl⟩, by simp, rfl⟩
      · have h1b : (x1 == 1) = false := by simpa using h1
        clear h1
        go_wp2_with fail
        refine Met.intro ?_
        go_step
        exact ⟨⟨rfl, rfl, rfl, rfl, rfl, rfl, rfl, rfl, rfl, rfl⟩, by rw [h1b]; rfl, rfl⟩
    case rest =>
    intro _ wc hinv
    obtain ⟨hfr, hv, rfl⟩ := hinv
    obtain ⟨ff, hff, ha⟩ := hfr.frame
    rw [hff 81] at hv
    clear hff hfr
    subst ha
    try dsimp only
    rw [hv]
    clear hv
    go_upto_if 81 with fail
    refine wp_cut (fun a' wx => FrW a' (.slice pa p.length pc) (.slice qa q.length qc) u7 (.bool m) (.bool false) (.pointer (some ⟨bx, 0, none⟩)) (.pointer (some ⟨bY, 0, none⟩)) (.int .i64 (wkN (x1, x2, x3) (y1, y2, y3))) ∧ wc = wx) ?rest ?first
    case first =>
      intro _ _ _ _
      by_cases h11 : x1 = 1 ∧ y1 = 1
      · have HW := hidden (show wkN (x1, x2, x3) (y1, y2, y3) = min x2 y2 by unfold wkN; rw [if_pos h11])
        obtain ⟨rfl, rfl⟩ := h11
        by_cases hlt : y2 < x2
        · have hd : decide (y2 < x2) = true := by simpa using hlt
          go_wp2_with fail
          refine Met.intro ?_
          go_step
          exact ⟨⟨rfl, rfl, rfl, rfl, rfl, rfl, rfl, rfl, by rw [HW.out, Int.min_eq_right (by omega)]; rfl, rfl⟩, rfl⟩
        · have hd : decide (y2 < x2) = false := by simpa using hlt
          go_wp2_with fail
          refine Met.intro ?_
          go_step
          exact ⟨⟨rfl, rfl, rfl, rfl, rfl, rfl, rfl, rfl, by rw [HW.out, Int.min_eq_left (by omega)]; rfl, rfl⟩, rfl⟩
      · have HW := hidden (show wkN (x1, x2, x3) (y1, y2, y3) = 1 by unfold wkN; rw [if_neg h11])
        have hb : (x1 == 1 && y1 == 1) = false := by
          rw [Bool.and_eq_false_iff]
          by_cases h : x1 = 1
          · exact Or.inr (by simpa using fun h2 => h11 ⟨h, h2⟩)
          · exact Or.inl (by simpa using h)
        rw [hb]
        clear h11
        go_wp2_with fail
        refine Met.intro ?_
        go_step
        exact ⟨⟨rfl, rfl, rfl, rfl, rfl, rfl, rfl, rfl, by rw [HW.out]; rfl, rfl⟩, rfl⟩
    case rest =>
    intro _ wc hinv
    obtain ⟨hfr, rfl⟩ := hinv
    obtain ⟨ff, hff, ha⟩ := hfr.frame
    clear hff hfr
    subst ha
    try dsimp only
    obtain ⟨N, hN⟩ : ∃ N, wkN (x1, x2, x3) (y1, y2, y3) = N := ⟨_, rfl⟩
    have hN1 : 1 ≤ N := by
      rw [← hN]; unfold wkN
      rcases HAX.out with ⟨h, h2, _⟩ | ⟨h, _⟩ <;> rcases HAY.out with ⟨g, g2, _⟩ | ⟨g, _⟩ <;> simp only [] <;> split <;> omega
    have hN2 : N ≤ 1099511627776 := by
      have := HBX.out
      rw [← hN]; unfold wkN; simp only []; split <;> omega
    rw [hN]
    have HN := hidden hN
    clear hN
    go_upto_region 24 with fail
    refine wp_cut (fun a' wx => FrW a' (.slice pa p.length pc) (.slice qa q.length qc) u7 (.bool m) (.bool (opn (x1, x2, x3) || opn (y1, y2, y3))) (.pointer (some ⟨bx, 0, none⟩)) (.pointer (some ⟨bY, 0, none⟩)) (.int .i64 N) ∧ wc = wx) ?rest ?first
    case first =>
      intro _ _ _ _
      by_cases h1 : x1 = 1
      · subst h1
        by_cases g1 : y1 = 1
        · subst g1
          go_wp2_with fail
          refine Met.intro ?_
          go_step
          exact ⟨⟨rfl, rfl, rfl, rfl, rfl, by simp [opn], rfl, rfl, rfl, rfl⟩, rfl⟩
        · have g1b : (y1 != 1) = true := by simpa using g1
          have g1c : (y1 == 1) = false := by simpa using g1
          clear g1
          go_wp2_with (go_at_call 30; refine (openX y3 _ HFY.out).mono ?_; rintro e w' ⟨rfl, rfl⟩)
          refine Met.intro ?_
          go_step
          exact ⟨⟨rfl, rfl, rfl, rfl, rfl, by simp [opn, g1c], rfl, rfl, rfl, rfl⟩, rfl⟩
      · have h1b : (x1 != 1) = true := by simpa using h1
        have h1c : (x1 == 1) = false := by simpa using h1
        clear h1
        cases hcl : cl x3 with
        | false =>
          have HCL := hidden hcl
          clear hcl
          go_wp2_with (go_at_call 30; refine (openX x3 _ HFX.out).mono ?_; rw [HCL.out]; rintro e w' ⟨rfl, rfl⟩)
          refine Met.intro ?_
          go_step
          exact ⟨⟨rfl, rfl, rfl, rfl, rfl, by simp [opn, h1c, HCL.out], rfl, rfl, rfl, rfl⟩, rfl⟩
        | true =>
          have HCL := hidden hcl
          clear hcl
          by_cases g1 : y1 = 1
          · subst g1
            go_wp2_with (go_at_call 30; refine (openX x3 _ HFX.out).mono ?_; rw [HCL.out]; rintro e w' ⟨rfl, rfl⟩)
            refine Met.intro ?_
            go_step
            exact ⟨⟨rfl, rfl, rfl, rfl, rfl, by simp [opn, HCL.out], rfl, rfl, rfl, rfl⟩, rfl⟩
          · have g1b : (y1 != 1) = true := by simpa using g1
            have g1c : (y1 == 1) = false := by simpa using g1
            clear g1
            go_wp2_with (first | (go_at_call_has 30 x3; refine (openX x3 _ HFX.out).mono ?_; rw [HCL.out]; rintro e w' ⟨rfl, rfl⟩) | (go_at_call 30; refine (openX y3 _ HFY.out).mono ?_; rintro e w' ⟨rfl, rfl⟩))
            refine Met.intro ?_
            go_step
            exact ⟨⟨rfl, rfl, rfl, rfl, rfl, by simp [opn, g1c, HCL.out], rfl, rfl, rfl, rfl⟩, rfl⟩
    case rest =>
    intro _ wc hinv
    obtain ⟨hfr, rfl⟩ := hinv
    obtain ⟨ff, hff, ha⟩ := hfr.frame
    clear hff hfr
    subst ha
    try dsimp only
    obtain ⟨eo, heo⟩ : ∃ b, (opn (x1, x2, x3) || opn (y1, y2, y3)) = b := ⟨_, rfl⟩
    rw [heo]
    have HEO := hidden heo
    clear heo
    go_upto_region 25 with fail
    refine wp_cut (fun a' wx => FrW a' (.slice pa p.length pc) (.slice qa q.length qc) u7 (.bool m) (.bool eo) (.pointer (some ⟨bx, 0, none⟩)) (.pointer (some ⟨bY, 0, none⟩)) (.int .i64 N) ∧ a'.tmps.getD 122 undef = .bool (x1 != 1 && y1 != 1 && x3 != y3) ∧ wc = wx) ?rest ?first
    case first =>
      intro _ _ _ _
      by_cases h1 : x1 = 1
      · subst h1
        go_wp2_with fail
        refine Met.intro ?_
        go_step
        exact ⟨⟨rfl, rfl, rfl, rfl, rfl, rfl, rfl, rfl, rfl, rfl⟩, by simp, rfl⟩
      · have h1b : (x1 != 1) = true := by simpa using h1
        clear h1
        by_cases g1 : y1 = 1
        · subst g1
          go_wp2_with fail
          refine Met.intro ?_
          go_step
          exact ⟨⟨rfl, rfl, rfl, rfl, rfl, rfl, rfl, rfl, rfl, rfl⟩, by simp, rfl⟩
        · have g1b : (y1 != 1) = true := by simpa using g1
          clear g1
          go_wp2_with fail
          refine Met.intro ?_
          go_step
          exact ⟨⟨rfl, rfl, rfl, rfl, rfl, rfl, rfl, rfl, rfl, rfl⟩, by rw [h1b, g1b]; rfl, rfl⟩
    case rest =>
    intro _ wc hinv
    obtain ⟨hfr, hv, rfl⟩ := hinv
    obtain ⟨ff, hff, ha⟩ := hfr.frame
    rw [hff 122] at hv
    clear hff hfr
    subst ha
    try dsimp only
    rw [hv]
    clear hv
    by_cases hmm : x1 ≠ 1 ∧ y1 ≠ 1 ∧ x3 ≠ y3
    · have hb : (x1 != 1 && y1 != 1 && x3 != y3) = true := by simpa [and_assoc] using hmm
      rw [hb]
      have HQ := hidden (show R = none by rw [HEQ.out, wk_off _ _ _ HNE.out H3.out H4.out (by rw [HX.out, HY.out]; exact hmm)]; rfl)
      clear hmm hb
      go_wp2_with fail
      go_ret3
      exact ⟨by rw [HQ.out]; exact rfl, HKX.out.kw.bel⟩
    have hb : (x1 != 1 && y1 != 1 && x3 != y3) = false := by
      rw [Bool.eq_false_iff]; intro h; exact hmm (by simpa [and_assoc] using h)
    rw [hb]
    clear hb
    have HEQ2 := hidden (show R = (wk f' (opn (x1, x2, x3) || opn (y1, y2, y3)) (onn p N) (onn q N)).map fun r => ((o ++ wkO (x1, x2, x3) (y1, y2, y3) N) ++ r.1, (m || (x1 == 4 && y1 == 3)) || r.2) by
      have := wk_mid f' p q HNE.out H3.out H4.out (by rw [HX.out, HY.out]; exact hmm)
      rw [HX.out, HY.out, HN.out] at this
      rw [HEQ.out, this, map_mid])
    have HLS := hidden (show (onn p N).length + (onn q N).length < p.length + q.length by
      have := onn_less HS.out.op HS.out.oq HNE.out
      rwa [HX.out, HY.out, HN.out] at this)
    clear hmm
    rw [HEO.out] at HEQ2
    have hlo := HS.out.ln
    go_upto_block 2 with fail
    refine wp_cut (fun a' wx => ∃ v7 : Value, FrW a' (.slice pa p.length pc) (.slice qa q.length qc) v7 (.bool (m || (x1 == 4 && y1 == 3))) (.bool eo) (.pointer (some ⟨bx, 0, none⟩)) (.pointer (some ⟨bY, 0, none⟩)) (.int .i64 N) ∧ Hid (KW w p q (o ++ wkO (x1, x2, x3) (y1, y2, y3) N) (.slice pa p.length pc) (.slice qa q.length qc) v7 wx)) ?rest ?first
    case first =>
      intro _ _ _ _
      have hx := HAX.out
      have hy := HAY.out
      by_cases h1 : x1 = 1
      · subst h1
        clear hx
        by_cases g1 : y1 = 1
        · subst g1
          clear hy
          go_wp2_with (at_builtin; go_must (refine wpList_append_by _ (by go_simp) (.tmp 137) (.tmp 141) rfl w.heap.size _ o 1 (N) [] 0 wc wc.heap.size rfl rfl rfl rfl (HKX.out.kw.oo.alloc _) (by omega) (by simp; omega) ?_; intro v9 w9 hown9 hg9 hv9))
          have HK1 := hidden (KW.add (HKX.out.kw.alloc (byB 1 (N) [] 0)) hown9 hg9 hv9)
          clear hown9 hg9 hv9
          refine Met.intro ?_
          go_step
          exact ⟨_, ⟨rfl, rfl, rfl, rfl, by first | (show Value.bool m = _; simp) | (show Value.bool true = _; simp), rfl, rfl, rfl, rfl, rfl⟩, HK1.out⟩
        · have hy2 : y1 = 2 ∨ y1 = 3 := by omega
          clear hy g1
          rcases hy2 with rfl | rfl
          · skip
            go_wp2_with (at_builtin; go_must (refine wpList_append_by _ (by go_simp) (.tmp 174) (.tmp 177) rfl w.heap.size _ o 2 (y2) y3 0 wc wc.heap.size rfl rfl rfl rfl (HKX.out.kw.oo.alloc _) (by omega) (by simp; omega) ?_; intro v9 w9 hown9 hg9 hv9))
            have HK1 := hidden (KW.add (HKX.out.kw.alloc (byB 2 (y2) y3 0)) hown9 hg9 hv9)
            clear hown9 hg9 hv9
            refine Met.intro ?_
            go_step
            exact ⟨_, ⟨rfl, rfl, rfl, rfl, by first | (show Value.bool m = _; simp) | (show Value.bool true = _; simp), rfl, rfl, rfl, rfl, rfl⟩, HK1.out⟩
          · skip
            go_wp2_with (at_builtin; go_must (refine wpList_append_by _ (by go_simp) (.tmp 165) (.tmp 168) rfl w.heap.size _ o 3 (y2) y3 2 wc wc.heap.size rfl rfl rfl rfl (HKX.out.kw.oo.alloc _) (by omega) (by simp; omega) ?_; intro v9 w9 hown9 hg9 hv9))
            have HK1 := hidden (KW.add (HKX.out.kw.alloc (byB 3 (y2) y3 2)) hown9 hg9 hv9)
            clear hown9 hg9 hv9
            refine Met.intro ?_
            go_step
            exact ⟨_, ⟨rfl, rfl, rfl, rfl, by first | (show Value.bool m = _; simp) | (show Value.bool true = _; simp), rfl, rfl, rfl, rfl, rfl⟩, HK1.out⟩
      · have hx2 : x1 = 2 ∨ x1 = 4 := by omega
        clear hx h1
        by_cases g1 : y1 = 1
        · subst g1
          clear hy
          rcases hx2 with rfl | rfl
          · skip
            go_wp2_with (at_builtin; go_must (refine wpList_append_by _ (by go_simp) (.tmp 123) (.tmp 126) rfl w.heap.size _ o 2 (x2) x3 0 wc wc.heap.size rfl rfl rfl rfl (HKX.out.kw.oo.alloc _) (by omega) (by simp; omega) ?_; intro v9 w9 hown9 hg9 hv9))
            have HK1 := hidden (KW.add (HKX.out.kw.alloc (byB 2 (x2) x3 0)) hown9 hg9 hv9)
            clear hown9 hg9 hv9
            refine Met.intro ?_
            go_step
            exact ⟨_, ⟨rfl, rfl, rfl, rfl, by first | (show Value.bool m = _; simp) | (show Value.bool true = _; simp), rfl, rfl, rfl, rfl, rfl⟩, HK1.out⟩
          · skip
            go_wp2_with (at_builtin; go_must (refine wpList_append_by _ (by go_simp) (.tmp 156) (.tmp 159) rfl w.heap.size _ o 4 (x2) x3 1 wc wc.heap.size rfl rfl rfl rfl (HKX.out.kw.oo.alloc _) (by omega) (by simp; omega) ?_; intro v9 w9 hown9 hg9 hv9))
            have HK1 := hidden (KW.add (HKX.out.kw.alloc (byB 4 (x2) x3 1)) hown9 hg9 hv9)
            clear hown9 hg9 hv9
            refine Met.intro ?_
            go_step
            exact ⟨_, ⟨rfl, rfl, rfl, rfl, by first | (show Value.bool m = _; simp) | (show Value.bool true = _; simp), rfl, rfl, rfl, rfl, rfl⟩, HK1.out⟩
        · have hy2 : y1 = 2 ∨ y1 = 3 := by omega
          clear hy g1
          rcases hx2 with rfl | rfl
          · rcases hy2 with rfl | rfl
            · skip
              go_wp2_with (at_builtin; go_must (refine wpList_append_by _ (by go_simp) (.tmp 174) (.tmp 177) rfl w.heap.size _ o 2 (y2) y3 0 wc wc.heap.size rfl rfl rfl rfl (HKX.out.kw.oo.alloc _) (by omega) (by simp; omega) ?_; intro v9 w9 hown9 hg9 hv9))
              have HK1 := hidden (KW.add (HKX.out.kw.alloc (byB 2 (y2) y3 0)) hown9 hg9 hv9)
              clear hown9 hg9 hv9
              refine Met.intro ?_
              go_step
              exact ⟨_, ⟨rfl, rfl, rfl, rfl, by first | (show Value.bool m = _; simp) | (show Value.bool true = _; simp), rfl, rfl, rfl, rfl, rfl⟩, HK1.out⟩
            · skip
              go_wp2_with (at_builtin; go_must (refine wpList_append_by _ (by go_simp) (.tmp 165) (.tmp 168) rfl w.heap.size _ o 3 (y2) y3 2 wc wc.heap.size rfl rfl rfl rfl (HKX.out.kw.oo.alloc _) (by omega) (by simp; omega) ?_; intro v9 w9 hown9 hg9 hv9))
              have HK1 := hidden (KW.add (HKX.out.kw.alloc (byB 3 (y2) y3 2)) hown9 hg9 hv9)
              clear hown9 hg9 hv9
              refine Met.intro ?_
              go_step
              exact ⟨_, ⟨rfl, rfl, rfl, rfl, by first | (show Value.bool m = _; simp) | (show Value.bool true = _; simp), rfl, rfl, rfl, rfl, rfl⟩, HK1.out⟩
          · rcases hy2 with rfl | rfl
            · skip
              go_wp2_with (at_builtin; go_must (refine wpList_append_by _ (by go_simp) (.tmp 156) (.tmp 159) rfl w.heap.size _ o 4 (x2) x3 1 wc wc.heap.size rfl rfl rfl rfl (HKX.out.kw.oo.alloc _) (by omega) (by simp; omega) ?_; intro v9 w9 hown9 hg9 hv9))
              have HK1 := hidden (KW.add (HKX.out.kw.alloc (byB 4 (x2) x3 1)) hown9 hg9 hv9)
              clear hown9 hg9 hv9
              refine Met.intro ?_
              go_step
              exact ⟨_, ⟨rfl, rfl, rfl, rfl, by first | (show Value.bool m = _; simp) | (show Value.bool true = _; simp), rfl, rfl, rfl, rfl, rfl⟩, HK1.out⟩
            · have HK1 := hidden (show KW w p q (o ++ wkO (4, x2, x3) (3, y2, y3) N) (.slice pa p.length pc) (.slice qa q.length qc) u7 wc by simpa [wkO] using HKX.out.kw)
              go_wp2_with fail
              refine Met.intro ?_
              go_step
              exact ⟨_, ⟨rfl, rfl, rfl, rfl, by first | (show Value.bool m = _; simp) | (show Value.bool true = _; simp), rfl, rfl, rfl, rfl, rfl⟩, HK1.out⟩
    case rest =>
    intro _ wc hinv
    obtain ⟨u7, hfr, HK1⟩ := hinv
    obtain ⟨ff, hff, ha⟩ := hfr.frame
    clear hff hfr
    subst ha
    try dsimp only
    clear c1 c2 c3 d1 d2 d3 hlx hly hwc
    go_wp2_with fail
    refine (pon_any N _ p _ HK1.out.pa (by omega) hN1 hN2 HS.out.op).mono ?_
    rintro e w10 ⟨v10, rfl, ho10, hb10, hn10⟩
    have HK2 := hidden (KW.goP HK1.out hb10 ho10 onn_ne hn10)
    clear ho10 hb10 hn10
    go_wp2_with fail
    refine (pon_any N _ q w10 HK2.out.qa (by omega) hN1 hN2 HS.out.oq).mono ?_
    rintro e w11 ⟨v11, rfl, ho11, hb11, hn11⟩
    have HK3 := hidden (KW.goQ HK2.out hb11 ho11 onn_ne hn11)
    clear ho11 hb11 hn11
    go_wp2_with fail
    refine Handed.intro ((onn p N).length + (onn q N).length) (by have := HLS.out; have := HG.out; omega) ?_
    go_step
    exact ⟨onn p N, onn q N, o ++ wkO (x1, x2, x3) (y1, y2, y3) N, _, eo, f', _, _, _, _, _, _, ⟨rfl, rfl, rfl, rfl, rfl, rfl, rfl, rfl, rfl, rfl⟩, ⟨rfl, ⟨HK3.out, HS.out.op.onn _ hN1, HS.out.oq.onn _ hN1, fit_onn HS.out.fp, fit_onn HS.out.fq, by have := HS.out.lt; have := HLS.out; omega, by have := HLS.out; have := wkO_len (x1, x2, x3) (y1, y2, y3) N; rw [List.length_append]; omega, HEQ2.out⟩⟩⟩

end Go.Proofs.Ytmbalnjobcgpkaa
