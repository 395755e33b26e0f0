
/-
  What the document's own walk answers at any two lists of steps that lie in memory; conditions: the lists' and texts' lengths.
-/
import Derived.Test.YtcdjemheokmglabCKeep
import Derived.Test.YtcdjemheokmglabORef
import Derived.Deep.CutRange
import Derived.Deep.CutBlock
import Derived.Deep.LoopGhost
import Derived.Sort.AtCall
namespace Go.Proofs.Ytcdjemheokmglab
open Go.RowKit Go.Proofs.Ytcdjemheokmglab.Ln Go.Proofs.Ytcdjemheokmglab.Ol

theorem fit_onn {l : List Oq} {n : Int} (h : Fit l) : Fit (onn l n) := by
  cases l with
  | nil => exact h
  | cons x r =>
    rw [onn_cons]
    split
    · intro y hy
      rcases List.mem_cons.1 hy with rfl | hy
      · simp
      · exact h y (by simp [hy])
    · exact fun y hy => h y (by simp [hy])
theorem OpsAt.behind1 {w : World} {b o : Nat} {x : Oq} {l : List Oq} (h : OpsAt w (.slice (some ⟨b, o, none⟩) (l.length + 1) 1) (x :: l)) : OpsAt w (.slice (some ⟨b, o, none⟩) 0 0) l := by
  have h1 := h.room
  have h0 : l.length = 0 := by omega
  have h2 := OpsAt.behind h
  rw [if_pos rfl, h0] at h2
  exact h2
theorem OpsAt.behind3 {w : World} {b o cap : Nat} {x : Oq} {l : List Oq} (h : OpsAt w (.slice (some ⟨b, o, none⟩) (l.length + 1) cap) (x :: l)) (hc : ¬ cap = 1) : OpsAt w (.slice (some ⟨b, o + 3, none⟩) l.length (cap - 1)) l := by
  have h2 := OpsAt.behind h
  rw [if_neg hc] at h2
  exact h2
theorem onn_less {p q : List Oq} (op : Ok p) (oq : Ok q) (h0 : ¬ (p.isEmpty && q.isEmpty) = true) : (onn p (wkN (hdO p) (hdO q))).length + (onn q (wkN (hdO p) (hdO q))).length < p.length + q.length := by
  have bhp := op.hd.2
  have bhq := oq.hd.2
  have l1 := onn_len p (wkN (hdO p) (hdO q))
  have l2 := onn_len q (wkN (hdO p) (hdO q))
  have hd0 : (hdO ([] : List Oq)).2.1 = 1099511627776 := rfl
  have hd1 : (hdO ([] : List Oq)).1 = 1 := rfl
  by_cases hss : (hdO p).1 = 1 ∧ (hdO q).1 = 1
  · have hN : wkN (hdO p) (hdO q) = min (hdO p).2.1 (hdO q).2.1 := by unfold wkN; rw [if_pos hss]
    by_cases hle : (hdO p).2.1 ≤ (hdO q).2.1
    · by_cases hpe : p = []
      · have hqe : q ≠ [] := fun h => h0 (by rw [hpe, h]; rfl)
        have := onn_drop hqe (n := wkN (hdO p) (hdO q)) (Or.inr (by rw [hN]; rw [hpe, hd0] at hle ⊢; omega))
        omega
      · have := onn_drop hpe (n := wkN (hdO p) (hdO q)) (Or.inr (by rw [hN]; omega))
        omega
    · have hqe : q ≠ [] := fun h => by rw [h, hd0] at hle; omega
      have := onn_drop hqe (n := wkN (hdO p) (hdO q)) (Or.inr (by rw [hN]; omega))
      omega
  · by_cases hp1 : (hdO p).1 = 1
    · have hqe : q ≠ [] := fun h => hss ⟨hp1, by rw [h]; rfl⟩
      have := onn_drop hqe (n := wkN (hdO p) (hdO q)) (Or.inl (fun h => hss ⟨hp1, h⟩))
      omega
    · have hpe : p ≠ [] := fun h => hp1 (by rw [h]; rfl)
      have := onn_drop hpe (n := wkN (hdO p) (hdO q)) (Or.inl hp1)
      omega
/-- the walk's answer -/
def WAns (w : World) (r : Option (List (Oq × Int) × Bool)) (e : Ending) (w' : World) : Prop :=
  (match r with
    | none => e = .returned (.tuple #[.slice none 0 0, .bool false, .bool false])
    | some r => ∃ vo, e = .returned (.tuple #[vo, .bool r.2, .bool true]) ∧ ByAt w' vo r.1) ∧ Below w.heap.size w w'
theorem ok_tail {x : Oq} {l : List Oq} (h : Ok (x :: l)) : Ok l := fun y hy => h y (by simp [hy])
theorem fit_tail {x : Oq} {l : List Oq} (h : Fit (x :: l)) : Fit l := fun y hy => h y (by simp [hy])
theorem wk_del (f : Nat) (e : Bool) (n : Int) (t : Tx) (p q : List Oq) : wk (f + 1) e ((3, n, t) :: p) q = (wk f e p q).map fun r => (((3, n, t), 1) :: r.1, r.2) := by rw [wk]; rfl
theorem wk_ins (f : Nat) (e : Bool) (n : Int) (t : Tx) (p q : List Oq) (h : (hdO p).1 ≠ 3) : wk (f + 1) e p ((4, n, t) :: q) = (wk f e p q).map fun r => (((4, n, t), 2) :: r.1, r.2) := by
  rw [wk, if_neg (by simp), if_neg h]; rfl
theorem wk_nil (f : Nat) (e : Bool) : wk (f + 1) e [] [] = some ([], false) := by rw [wk]; rfl
theorem wk_end (f : Nat) (p q : List Oq) (h : ¬ (p.isEmpty && q.isEmpty) = true) (h3 : (hdO p).1 ≠ 3) (h4 : (hdO q).1 ≠ 4) : wk (f + 1) true p q = none := by
  rw [wk, if_neg h, if_neg h3, if_neg h4, if_pos rfl]
theorem wk_mid (f : Nat) (p q : List Oq) (h : ¬ (p.isEmpty && q.isEmpty) = true) (h3 : (hdO p).1 ≠ 3) (h4 : (hdO q).1 ≠ 4) (hc : ¬ ((hdO p).1 ≠ 1 ∧ (hdO q).1 ≠ 1 ∧ (hdO p).2.2 ≠ (hdO q).2.2)) : wk (f + 1) false p q = (wk f (opn (hdO p) || opn (hdO q)) (onn p (wkN (hdO p) (hdO q))) (onn q (wkN (hdO p) (hdO q)))).map fun r => (wkO (hdO p) (hdO q) (wkN (hdO p) (hdO q)) ++ r.1, ((hdO p).1 == 4 && (hdO q).1 == 3) || r.2) := by
  rw [wk, if_neg h, if_neg h3, if_neg h4, if_neg (by simp), if_neg hc]
theorem wk_off (f : Nat) (p q : List Oq) (h : ¬ (p.isEmpty && q.isEmpty) = true) (h3 : (hdO p).1 ≠ 3) (h4 : (hdO q).1 ≠ 4) (hc : (hdO p).1 ≠ 1 ∧ (hdO q).1 ≠ 1 ∧ (hdO p).2.2 ≠ (hdO q).2.2) : wk (f + 1) false p q = none := by
  rw [wk, if_neg h, if_neg h3, if_neg h4, if_neg (by simp), if_pos hc]
theorem map_mid (w : Option (List (Oq × Int) × Bool)) (o k : List (Oq × Int)) (m b : Bool) : (w.map fun r => (k ++ r.1, b || r.2)).map (fun r => (o ++ r.1, m || r.2)) = w.map fun r => ((o ++ k) ++ r.1, (m || b) || r.2) := by
  cases w with
  | none => rfl
  | some r => simp [Bool.or_assoc]
theorem map_step (w : Option (List (Oq × Int) × Bool)) (o : List (Oq × Int)) (m : Bool) (x : Oq × Int) : (w.map fun r => (x :: r.1, r.2)).map (fun r => (o ++ r.1, m || r.2)) = w.map fun r => ((o ++ [x]) ++ r.1, m || r.2) := by
  cases w with
  | none => rfl
  | some r => simp

theorem cell_two (W : World) (a b : Obj) (i : Nat) : ((W.alloc a).alloc b).cell? ⟨W.heap.size, i, none⟩ = (W.alloc a).cell? ⟨W.heap.size, i, none⟩ :=
  (bel_alloc (Below.refl (W.alloc a).heap.size (W.alloc a)) b).cell (p := ⟨W.heap.size, i, none⟩) (by show W.heap.size < (W.alloc a).heap.size; simp)
theorem wkO_len (x y : Oq) (n : Int) : (wkO x y n).length ≤ 1 := by
  unfold wkO
  repeat (split; · simp)
  simp

/-- the frame, as far as it matters -/
structure FrW (a : Act) (s0 s1 s7 s8 s9 s10 s11 s12 : Value) : Prop where
  size : a.tmps.size = 187
  e0 : a.tmps.getD 0 undef = s0
  e1 : a.tmps.getD 1 undef = s1
  e7 : a.tmps.getD 7 undef = s7
  e8 : a.tmps.getD 8 undef = s8
  e9 : a.tmps.getD 9 undef = s9
  e10 : a.tmps.getD 10 undef = s10
  e11 : a.tmps.getD 11 undef = s11
  e12 : a.tmps.getD 12 undef = s12
  marks : a.defers = []
theorem FrW_slots (tmps : Array Value) (h : tmps.size = 187) : tmps = #[tmps.getD 0 undef, tmps.getD 1 undef, tmps.getD 2 undef, tmps.getD 3 undef, tmps.getD 4 undef, tmps.getD 5 undef, tmps.getD 6 undef, tmps.getD 7 undef, tmps.getD 8 undef, tmps.getD 9 undef, tmps.getD 10 undef, tmps.getD 11 undef, tmps.getD 12 undef, tmps.getD 13 undef, tmps.getD 14 undef, tmps.getD 15 undef, tmps.getD 16 undef, tmps.getD 17 undef, tmps.getD 18 undef, tmps.getD 19 undef, tmps.getD 20 undef, tmps.getD 21 undef, tmps.getD 22 undef, tmps.getD 23 undef, tmps.getD 24 undef, tmps.getD 25 undef, tmps.getD 26 undef, tmps.getD 27 undef, tmps.getD 28 undef, tmps.getD 29 undef, tmps.getD 30 undef, tmps.getD 31 undef, tmps.getD 32 undef, tmps.getD 33 undef, tmps.getD 34 undef, tmps.getD 35 undef, tmps.getD 36 undef, tmps.getD 37 undef, tmps.getD 38 undef, tmps.getD 39 undef, tmps.getD 40 undef, tmps.getD 41 undef, tmps.getD 42 undef, tmps.getD 43 undef, tmps.getD 44 undef, tmps.getD 45 undef, tmps.getD 46 undef, tmps.getD 47 undef, tmps.getD 48 undef, tmps.getD 49 undef, tmps.getD 50 undef, tmps.getD 51 undef, tmps.getD 52 undef, tmps.getD 53 undef, tmps.getD 54 undef, tmps.getD 55 undef, tmps.getD 56 undef, tmps.getD 57 undef, tmps.getD 58 undef, tmps.getD 59 undef, tmps.getD 60 undef, tmps.getD 61 undef, tmps.getD 62 undef, tmps.getD 63 undef, tmps.getD 64 undef, tmps.getD 65 undef, tmps.getD 66 undef, tmps.getD 67 undef, tmps.getD 68 undef, tmps.getD 69 undef, tmps.getD 70 undef, tmps.getD 71 undef, tmps.getD 72 undef, tmps.getD 73 undef, tmps.getD 74 undef, tmps.getD 75 undef, tmps.getD 76 undef, tmps.getD 77 undef, tmps.getD 78 undef, tmps.getD 79 undef, tmps.getD 80 undef, tmps.getD 81 undef, tmps.getD 82 undef, tmps.getD 83 undef, tmps.getD 84 undef, tmps.getD 85 undef, tmps.getD 86 undef, tmps.getD 87 undef, tmps.getD 88 undef, tmps.getD 89 undef, tmps.getD 90 undef, tmps.getD 91 undef, tmps.getD 92 undef, tmps.getD 93 undef, tmps.getD 94 undef, tmps.getD 95 undef, tmps.getD 96 undef, tmps.getD 97 undef, tmps.getD 98 undef, tmps.getD 99 undef, tmps.getD 100 undef, tmps.getD 101 undef, tmps.getD 102 undef, tmps.getD 103 undef, tmps.getD 104 undef, tmps.getD 105 undef, tmps.getD 106 undef, tmps.getD 107 undef, tmps.getD 108 undef, tmps.getD 109 undef, tmps.getD 110 undef, tmps.getD 111 undef, tmps.getD 112 undef, tmps.getD 113 undef, tmps.getD 114 undef, tmps.getD 115 undef, tmps.getD 116 undef, tmps.getD 117 undef, tmps.getD 118 undef, tmps.getD 119 undef, tmps.getD 120 undef, tmps.getD 121 undef, tmps.getD 122 undef, tmps.getD 123 undef, tmps.getD 124 undef, tmps.getD 125 undef, tmps.getD 126 undef, tmps.getD 127 undef, tmps.getD 128 undef, tmps.getD 129 undef, tmps.getD 130 undef, tmps.getD 131 undef, tmps.getD 132 undef, tmps.getD 133 undef, tmps.getD 134 undef, tmps.getD 135 undef, tmps.getD 136 undef, tmps.getD 137 undef, tmps.getD 138 undef, tmps.getD 139 undef, tmps.getD 140 undef, tmps.getD 141 undef, tmps.getD 142 undef, tmps.getD 143 undef, tmps.getD 144 undef, tmps.getD 145 undef, tmps.getD 146 undef, tmps.getD 147 undef, tmps.getD 148 undef, tmps.getD 149 undef, tmps.getD 150 undef, tmps.getD 151 undef, tmps.getD 152 undef, tmps.getD 153 undef, tmps.getD 154 undef, tmps.getD 155 undef, tmps.getD 156 undef, tmps.getD 157 undef, tmps.getD 158 undef, tmps.getD 159 undef, tmps.getD 160 undef, tmps.getD 161 undef, tmps.getD 162 undef, tmps.getD 163 undef, tmps.getD 164 undef, tmps.getD 165 undef, tmps.getD 166 undef, tmps.getD 167 undef, tmps.getD 168 undef, tmps.getD 169 undef, tmps.getD 170 undef, tmps.getD 171 undef, tmps.getD 172 undef, tmps.getD 173 undef, tmps.getD 174 undef, tmps.getD 175 undef, tmps.getD 176 undef, tmps.getD 177 undef, tmps.getD 178 undef, tmps.getD 179 undef, tmps.getD 180 undef, tmps.getD 181 undef, tmps.getD 182 undef, tmps.getD 183 undef, tmps.getD 184 undef, tmps.getD 185 undef, tmps.getD 186 undef] := by
  have h1 : tmps.toList = (List.range 187).map (fun i => tmps.getD i undef) := by
    apply List.ext_getElem
    · simp [h]
    · intro i h2 h3
      simp at h2
      simp [h2]
  calc tmps = ⟨tmps.toList⟩ := rfl
    _ = ⟨(List.range 187).map (fun i => tmps.getD i undef)⟩ := by rw [h1]
    _ = _ := rfl
theorem FrW.frame {a : Act} {s0 s1 s7 s8 s9 s10 s11 s12 : Value} (h : FrW a s0 s1 s7 s8 s9 s10 s11 s12) : ∃ f : Nat → Value, (∀ i, a.tmps.getD i undef = f i) ∧ a = { tmps := #[s0, s1, f 2, f 3, f 4, f 5, f 6, s7, s8, s9, s10, s11, s12, f 13, f 14, f 15, f 16, f 17, f 18, f 19, f 20, f 21, f 22, f 23, f 24, f 25, f 26, f 27, f 28, f 29, f 30, f 31, f 32, f 33, f 34, f 35, f 36, f 37, f 38, f 39, f 40, f 41, f 42, f 43, f 44, f 45, f 46, f 47, f 48, f 49, f 50, f 51, f 52, f 53, f 54, f 55, f 56, f 57, f 58, f 59, f 60, f 61, f 62, f 63, f 64, f 65, f 66, f 67, f 68, f 69, f 70, f 71, f 72, f 73, f 74, f 75, f 76, f 77, f 78, f 79, f 80, f 81, f 82, f 83, f 84, f 85, f 86, f 87, f 88, f 89, f 90, f 91, f 92, f 93, f 94, f 95, f 96, f 97, f 98, f 99, f 100, f 101, f 102, f 103, f 104, f 105, f 106, f 107, f 108, f 109, f 110, f 111, f 112, f 113, f 114, f 115, f 116, f 117, f 118, f 119, f 120, f 121, f 122, f 123, f 124, f 125, f 126, f 127, f 128, f 129, f 130, f 131, f 132, f 133, f 134, f 135, f 136, f 137, f 138, f 139, f 140, f 141, f 142, f 143, f 144, f 145, f 146, f 147, f 148, f 149, f 150, f 151, f 152, f 153, f 154, f 155, f 156, f 157, f 158, f 159, f 160, f 161, f 162, f 163, f 164, f 165, f 166, f 167, f 168, f 169, f 170, f 171, f 172, f 173, f 174, f 175, f 176, f 177, f 178, f 179, f 180, f 181, f 182, f 183, f 184, f 185, f 186], defers := [] } := by
  refine ⟨fun i => a.tmps.getD i undef, fun _ => rfl, ?_⟩
  obtain ⟨tmps, defers⟩ := a
  have h1 := FrW_slots tmps h.size
  rw [h.e0, h.e1, h.e7, h.e8, h.e9, h.e10, h.e11, h.e12] at h1
  have h2 := h.marks
  simp only at h2
  rw [h2]
  exact congrArg (fun t => Act.mk t []) h1

end Go.Proofs.Ytcdjemheokmglab
