
/-
  The law TidyLeast answers true at whatever steps, and leaves what lay in memory as it was.
-/
import Derived.Test.YtbbbphlojefgjaaTLaw
import Derived.Test.YtbbbphlojefgjaaIBase
namespace Go.Proofs.Ytbbbphlojefgjaa
open Go.RowKit Go.Proofs.Ytbbbphlojefgjaa.Ln Go.Proofs.Ytbbbphlojefgjaa.Ol

open Go.Deep

/-- are all lines, and closed, and short? -/
def clsB (a : List Tx) : Bool := a.all fun t => rt t && cl t && decide (t.length ≤ 20)

set_option maxHeartbeats 2000000 in
theorem closed13_any (v : Value) (a : List Tx) (w : World) (hA : RowAt w v a) (hl : a.length ≤ 1048576) (hf : FitT a) :
    Calls Try.prog 21 #[v] w fun e w' => e = .returned (.bool (clsB a)) ∧ w' = w := by
  have HF := hidden hf
  obtain ⟨ao, cap, rfl, hc⟩ := hA.open_
  have HC := hidden hc
  clear hA hc hf
  go_enter Try.func21, Try.ntmps21
  go_wp2_with fail
  go_loopw [3] (fun i wr => ∃ k : Nat, k ≤ a.length ∧ i = .int .i64 k ∧ Hid (clsB (a.take k) = true) ∧ wr = w) (fun i _ => a.length - (intOf i).toNat)
  case atStart => exact ⟨0, Nat.zero_le _, rfl, rfl, rfl⟩
  case round =>
    obtain ⟨k, hk, rfl, hst, rfl⟩ := hrel
    by_cases hlt : k < a.length
    · obtain ⟨x, hx⟩ : ∃ x, a[k]? = some x := ⟨a[k], List.getElem?_eq_getElem hlt⟩
      obtain ⟨b1, o1, hao, hcp1, hb1, cx⟩ := HC.out k x hx
      subst hao
      have hlx : x.length ≤ 140737488355328 := HF.out x (List.mem_of_getElem? hx)
      have HTK := hidden (show clsB (a.take (k + 1)) = (rt x && cl x && decide (x.length ≤ 20)) by
        unfold clsB at hst ⊢
        rw [take_snoc hx, List.all_append, hst.out]; simp)
      have HNO := hidden (show (rt x && cl x && decide (x.length ≤ 20)) = false → clsB a = false from fun h => by
        rw [Bool.eq_false_iff]
        intro h2
        unfold clsB at h2
        have := List.all_eq_true.1 h2 x (List.mem_of_getElem? hx)
        rw [h] at this
        cases this)
      clear hx
      cases hrt : rt x with
      | false =>
        have HRT := hidden hrt
        clear hrt
        go_wp2_with (go_at_call 32; refine (rightLineX x _ hlx).mono ?_; rw [HRT.out]; rintro e w' ⟨rfl, rfl⟩)
        go_ret
        exact ⟨by rw [HNO.out (by rw [HRT.out]; rfl)]; rfl, by first | rfl | trivial⟩
      | true =>
        have HRT := hidden hrt
        clear hrt
        cases hcl : cl x with
        | false =>
          have HCL := hidden hcl
          clear hcl
          go_wp2_with (first | (go_at_call 32; refine (rightLineX x _ hlx).mono ?_; rw [HRT.out]; rintro e w' ⟨rfl, rfl⟩) | (go_at_call 33; refine (openX x _ hlx).mono ?_; rw [HCL.out]; rintro e w' ⟨rfl, rfl⟩))
          go_ret
          exact ⟨by rw [HNO.out (by rw [HRT.out, HCL.out]; rfl)]; rfl, by first | rfl | trivial⟩
        | true =>
          have HCL := hidden hcl
          clear hcl
          by_cases hs : x.length ≤ 20
          · have hd1 : decide ((x.length : Int) > 20) = false := by simp; omega
            have hd2 : decide (20 < x.length) = false := by simp; omega
            have HN := hidden (show clsB (a.take (k + 1)) = true by rw [HTK.out, HRT.out, HCL.out, decide_eq_true hs]; rfl)
            go_wp2_with (first | (go_at_call 32; refine (rightLineX x _ hlx).mono ?_; rw [HRT.out]; rintro e w' ⟨rfl, rfl⟩) | (go_at_call 33; refine (openX x _ hlx).mono ?_; rw [HCL.out]; rintro e w' ⟨rfl, rfl⟩))
            go_roundw
            case rel => exact ⟨k + 1, by omega, by go_num, HN.out, by first | rfl | trivial⟩
            case measure => simp [intOf]; omega
          · have hd1 : decide ((x.length : Int) > 20) = true := by simp; omega
            have hd2 : decide (20 < x.length) = true := by simp; omega
            have HSX := hidden (show decide (x.length ≤ 20) = false from decide_eq_false hs)
            clear hs
            go_wp2_with (first | (go_at_call 32; refine (rightLineX x _ hlx).mono ?_; rw [HRT.out]; rintro e w' ⟨rfl, rfl⟩) | (go_at_call 33; refine (openX x _ hlx).mono ?_; rw [HCL.out]; rintro e w' ⟨rfl, rfl⟩))
            go_ret
            exact ⟨by rw [HNO.out (by rw [HRT.out, HCL.out, HSX.out]; rfl)]; rfl, by first | rfl | trivial⟩
    · have HE := hidden (show clsB a = true by have := hst.out; rwa [List.take_of_length_le (by omega)] at this)
      go_wp2_with fail
      go_ret
      exact ⟨by rw [HE.out]; rfl, by first | rfl | trivial⟩

/-- lines of steps, and what both sides of them are -/
structure LS (a b : List Tx) (i k : Nat) (c : List Oq) : Prop where
  o3 : sdt 4 c = a.take i
  o4 : sdt 3 c = b.take k
  kd : ∀ x ∈ c, (x.1 = 2 ∨ x.1 = 3 ∨ x.1 = 4) ∧ x.2.1 = 0 ∧ (x.2.2 ∈ a ∨ x.2.2 ∈ b)
  ln : c.length ≤ i + k
theorem LS.keep {a b : List Tx} {i k : Nat} {c : List Oq} {x : Tx} (h : LS a b i k c) (ha : a[i]? = some x) (hb : b[k]? = some x) : LS a b (i + 1) (k + 1) (c ++ [(2, 0, x)]) := by
  refine ⟨?_, ?_, ?_, ?_⟩
  · rw [sdt_app, h.o3, take_snoc ha]; simp [sdt]
  · rw [sdt_app, h.o4, take_snoc hb]; simp [sdt]
  · intro y hy
    rcases List.mem_append.1 hy with h1 | h1
    · exact h.kd y h1
    · rw [List.mem_singleton] at h1; rw [h1]; exact ⟨Or.inl rfl, rfl, Or.inl (List.mem_of_getElem? ha)⟩
  · rw [List.length_append]; have := h.ln; simp; omega
theorem LS.del {a b : List Tx} {i k : Nat} {c : List Oq} {x : Tx} (h : LS a b i k c) (ha : a[i]? = some x) : LS a b (i + 1) k (c ++ [(3, 0, x)]) := by
  refine ⟨?_, ?_, ?_, ?_⟩
  · rw [sdt_app, h.o3, take_snoc ha]; simp [sdt]
  · rw [sdt_app, h.o4]; simp [sdt]
  · intro y hy
    rcases List.mem_append.1 hy with h1 | h1
    · exact h.kd y h1
    · rw [List.mem_singleton] at h1; rw [h1]; exact ⟨Or.inr (Or.inl rfl), rfl, Or.inl (List.mem_of_getElem? ha)⟩
  · rw [List.length_append]; have := h.ln; simp; omega
theorem LS.ins {a b : List Tx} {i k : Nat} {c : List Oq} {x : Tx} (h : LS a b i k c) (hb : b[k]? = some x) : LS a b i (k + 1) (c ++ [(4, 0, x)]) := by
  refine ⟨?_, ?_, ?_, ?_⟩
  · rw [sdt_app, h.o3]; simp [sdt]
  · rw [sdt_app, h.o4, take_snoc hb]; simp [sdt]
  · intro y hy
    rcases List.mem_append.1 hy with h1 | h1
    · exact h.kd y h1
    · rw [List.mem_singleton] at h1; rw [h1]; exact ⟨Or.inr (Or.inr rfl), rfl, Or.inr (List.mem_of_getElem? hb)⟩
  · rw [List.length_append]; have := h.ln; simp; omega
theorem tot_lines (own : Int) (but : Int) (h : own = 3 ∧ but = 4 ∨ own = 4 ∧ but = 3) (c : List Oq) : (∀ x ∈ c, x.1 = 2 ∨ x.1 = 3 ∨ x.1 = 4) → tot own c = (sdt but c).length := by
  induction c with
  | nil => intro _; rfl
  | cons x c ih =>
    intro hk
    have hx := hk x (by simp)
    rw [tot, ih (fun y hy => hk y (by simp [hy])), sdt_cons, List.length_append]
    rcases h with ⟨rfl, rfl⟩ | ⟨rfl, rfl⟩ <;> rcases hx with e | e | e <;> simp [ln, e] <;> omega
theorem rsl_lines (own : Int) (c : List Oq) : (∀ x ∈ c, x.1 ≠ 1 ∧ cl x.2.2 = true) → c.foldl (rs own) (some false) = some false := by
  induction c with
  | nil => intro _; rfl
  | cons x c ih =>
    intro h
    obtain ⟨h1, h2⟩ := h x (by simp)
    rw [List.foldl_cons]
    have e : rs own (some false) x = some false := by
      unfold rs opn
      rw [h2]
      split <;> simp
    rw [e]
    exact ih fun y hy => h y (by simp [hy])
theorem tso_lines (c : List Oq) (s : List Oq × List Tx × List Tx) : (∀ x ∈ c, x.1 = 2 ∨ x.1 = 3 ∨ x.1 = 4) → c.foldl ts s = (s.1, s.2.1 ++ sdt 4 c, s.2.2 ++ sdt 3 c) := by
  induction c generalizing s with
  | nil => intro _; simp [sdt]
  | cons x c ih =>
    intro h
    have hx := h x (by simp)
    rw [List.foldl_cons, ih _ (fun y hy => h y (by simp [hy])), sdt_cons, sdt_cons]
    unfold ts
    rw [if_neg (by omega)]
    rcases hx with e | e | e <;> simp [e]
/-- a Skip and lines of two rows: right, and tidied -/
theorem least {a b : List Tx} {c : List Oq} {n : Int} (hn : 1 ≤ n ∧ n ≤ 100) (ha : clsB a = true) (hb : clsB b = true) (hla : a.length ≤ 20) (hlb : b.length ≤ 20) (h : LS a b a.length b.length c) :
    right ((1, n, []) :: c) = true ∧ chs (tdy ((1, n, []) :: c)) = a.length + b.length - 2 * lc a b := by
  have h3 : sdt 4 c = a := by rw [h.o3, List.take_length]
  have h4 : sdt 3 c = b := by rw [h.o4, List.take_length]
  have hk : ∀ x ∈ c, x.1 = 2 ∨ x.1 = 3 ∨ x.1 = 4 := fun x hx => (h.kd x hx).1
  have htx : ∀ x ∈ c, rt x.2.2 = true ∧ cl x.2.2 = true := fun x hx => by
    have key : ∀ t, t ∈ a ∨ t ∈ b → rt t = true ∧ cl t = true := fun t ht => by
      rcases ht with ht | ht
      · have := List.all_eq_true.1 ha t ht; simp only [Bool.and_eq_true] at this; exact this.1
      · have := List.all_eq_true.1 hb t ht; simp only [Bool.and_eq_true] at this; exact this.1
    exact key _ (h.kd x hx).2.2
  have hr : right ((1, n, []) :: c) = true := by
    unfold right
    rw [List.all_cons]
    have e1 : alone (1, n, []) = true := by simp [alone]; omega
    have e2 : c.all alone = true := List.all_eq_true.2 fun x hx => by
      have k1 := hk x hx
      have k2 := (h.kd x hx).2.1
      have k3 := (htx x hx).1
      unfold alone
      rw [if_neg (by omega), k2, k3]
      rcases k1 with e | e | e <;> simp [e]
    have e3 : ∀ own, rsl own ((1, n, []) :: c) = some false := fun own => by
      unfold rsl
      rw [List.foldl_cons]
      have : rs own (some false) (1, n, []) = some false := by simp [rs, on, opn]
      rw [this]
      exact rsl_lines own c fun x hx => ⟨by have := hk x hx; omega, (htx x hx).2⟩
    have e4 : tot 3 ((1, n, []) :: c) ≤ 2147483648 := by
      rw [tot, tot_lines 3 4 (Or.inl ⟨rfl, rfl⟩) c hk, h3]; simp [ln]; omega
    have e5 : tot 4 ((1, n, []) :: c) ≤ 2147483648 := by
      rw [tot, tot_lines 4 3 (Or.inr ⟨rfl, rfl⟩) c hk, h4]; simp [ln]; omega
    rw [e1, e2, e3, e3, decide_eq_true e4, decide_eq_true e5]
    rfl
  refine ⟨hr, ?_⟩
  have hal := right_al0 hr
  have et : tso ((1, n, []) :: c) = ([(1, n, [])], a, b) := by
    unfold tso
    rw [List.foldl_cons, tso_lines c _ hk, h3, h4]
    simp [ts, df_nil]
  have e : chs (tdy ((1, n, []) :: c)) = chs (td ((1, n, []) :: c)) := by
    unfold tdy
    rw [if_pos hr]
    exact (kept (td ((1, n, []) :: c)) (td_al _ hal)).ch
  rw [e]
  unfold td
  rw [et, chs_app, (df_len a b).2]
  simp [chs, chg]
/-- where the law's loop stands -/
structure LK (w : World) (a b : List Tx) (n : Int) (m i k : Nat) (c : List Oq) (vo : Value) (W : World) : Prop where
  bel : Below w.heap.size w W
  own : W.ownsRow w.heap.size 36 3 vo ((1, n, []) :: c : List Oq).length (cellsO ((1, n, []) :: c))
  ls : LS a b i k c
  on_ : i = a.length ∧ k = b.length ∨ m ≤ i + k
theorem LK.later {w : World} {a b : List Tx} {n : Int} {m i k : Nat} {c : List Oq} {vo : Value} {W W' : World} (h : LK w a b n m i k c vo W) (hb : Below W.heap.size W W') : LK w a b n m i k c vo W' :=
  ⟨h.bel.trans (hb.mono h.bel.size), owns_later h.own hb, h.ls, h.on_⟩
theorem LK.add {w : World} {a b : List Tx} {n : Int} {m i k i' k' : Nat} {c : List Oq} {vo v' : Value} {x : Oq} {W W' : World} (h : LK w a b n m i k c vo W) (ho : W'.ownsRow w.heap.size 36 3 v' (((1, n, []) :: c : List Oq) ++ [x]).length (cellsO (((1, n, []) :: c : List Oq) ++ [x]))) (ha : Adds (W.alloc (opO x.1 x.2.1 x.2.2)) W' vo v') (hl : LS a b i' k' (c ++ [x])) (hi : i + k + 1 ≤ i' + k') (hle : i < a.length ∨ k < b.length) : LK w a b n (m + 1) i' k' (c ++ [x]) v' W' :=
  ⟨adds_bel (bel_alloc h.bel _) (by have := h.bel.size; simp; omega) (h.own.alloc _) ha, ho, hl, Or.inr (by rcases h.on_ with ⟨e1, e2⟩ | e <;> omega)⟩
/-- the first case of the law's loop -/
def E1 (a b : List Tx) (i k : Nat) (z : Int) : Prop := i < a.length ∧ k < b.length ∧ a[i]? = b[k]? ∧ bits BinOp.and IntKind.i64 z 1 = 0

/-- the frame, as far as it matters -/
structure FrE (a : Act) (s0 s1 s3 s10 s11 s12 s13 : Value) : Prop where
  size : a.tmps.size = 175
  e0 : a.tmps.getD 0 undef = s0
  e1 : a.tmps.getD 1 undef = s1
  e3 : a.tmps.getD 3 undef = s3
  e10 : a.tmps.getD 10 undef = s10
  e11 : a.tmps.getD 11 undef = s11
  e12 : a.tmps.getD 12 undef = s12
  e13 : a.tmps.getD 13 undef = s13
  marks : a.defers = []
theorem FrE_slots (tmps : Array Value) (h : tmps.size = 175) : tmps = #[tmps.getD 0 undef, tmps.getD 1 undef, tmps.getD 2 undef, tmps.getD 3 undef, tmps.getD 4 undef, tmps.getD 5 undef, tmps.getD 6 undef, tmps.getD 7 undef, tmps.getD 8 undef, tmps.getD 9 undef, tmps.getD 10 undef, tmps.getD 11 undef, tmps.getD 12 undef, tmps.getD 13 undef, tmps.getD 14 undef, tmps.getD 15 undef, tmps.getD 16 undef, tmps.getD 17 undef, tmps.getD 18 undef, tmps.getD 19 undef, tmps.getD 20 undef, tmps.getD 21 undef, tmps.getD 22 undef, tmps.getD 23 undef, tmps.getD 24 undef, tmps.getD 25 undef, tmps.getD 26 undef, tmps.getD 27 undef, tmps.getD 28 undef, tmps.getD 29 undef, tmps.getD 30 undef, tmps.getD 31 undef, tmps.getD 32 undef, tmps.getD 33 undef, tmps.getD 34 undef, tmps.getD 35 undef, tmps.getD 36 undef, tmps.getD 37 undef, tmps.getD 38 undef, tmps.getD 39 undef, tmps.getD 40 undef, tmps.getD 41 undef, tmps.getD 42 undef, tmps.getD 43 undef, tmps.getD 44 undef, tmps.getD 45 undef, tmps.getD 46 undef, tmps.getD 47 undef, tmps.getD 48 undef, tmps.getD 49 undef, tmps.getD 50 undef, tmps.getD 51 undef, tmps.getD 52 undef, tmps.getD 53 undef, tmps.getD 54 undef, tmps.getD 55 undef, tmps.getD 56 undef, tmps.getD 57 undef, tmps.getD 58 undef, tmps.getD 59 undef, tmps.getD 60 undef, tmps.getD 61 undef, tmps.getD 62 undef, tmps.getD 63 undef, tmps.getD 64 undef, tmps.getD 65 undef, tmps.getD 66 undef, tmps.getD 67 undef, tmps.getD 68 undef, tmps.getD 69 undef, tmps.getD 70 undef, tmps.getD 71 undef, tmps.getD 72 undef, tmps.getD 73 undef, tmps.getD 74 undef, tmps.getD 75 undef, tmps.getD 76 undef, tmps.getD 77 undef, tmps.getD 78 undef, tmps.getD 79 undef, tmps.getD 80 undef, tmps.getD 81 undef, tmps.getD 82 undef, tmps.getD 83 undef, tmps.getD 84 undef, tmps.getD 85 undef, tmps.getD 86 undef, tmps.getD 87 undef, tmps.getD 88 undef, tmps.getD 89 undef, tmps.getD 90 undef, tmps.getD 91 undef, tmps.getD 92 undef, tmps.getD 93 undef, tmps.getD 94 undef, tmps.getD 95 undef, tmps.getD 96 undef, tmps.getD 97 undef, tmps.getD 98 undef, tmps.getD 99 undef, tmps.getD 100 undef, tmps.getD 101 undef, tmps.getD 102 undef, tmps.getD 103 undef, tmps.getD 104 undef, tmps.getD 105 undef, tmps.getD 106 undef, tmps.getD 107 undef, tmps.getD 108 undef, tmps.getD 109 undef, tmps.getD 110 undef, tmps.getD 111 undef, tmps.getD 112 undef, tmps.getD 113 undef, tmps.getD 114 undef, tmps.getD 115 undef, tmps.getD 116 undef, tmps.getD 117 undef, tmps.getD 118 undef, tmps.getD 119 undef, tmps.getD 120 undef, tmps.getD 121 undef, tmps.getD 122 undef, tmps.getD 123 undef, tmps.getD 124 undef, tmps.getD 125 undef, tmps.getD 126 undef, tmps.getD 127 undef, tmps.getD 128 undef, tmps.getD 129 undef, tmps.getD 130 undef, tmps.getD 131 undef, tmps.getD 132 undef, tmps.getD 133 undef, tmps.getD 134 undef, tmps.getD 135 undef, tmps.getD 136 undef, tmps.getD 137 undef, tmps.getD 138 undef, tmps.getD 139 undef, tmps.getD 140 undef, tmps.getD 141 undef, tmps.getD 142 undef, tmps.getD 143 undef, tmps.getD 144 undef, tmps.getD 145 undef, tmps.getD 146 undef, tmps.getD 147 undef, tmps.getD 148 undef, tmps.getD 149 undef, tmps.getD 150 undef, tmps.getD 151 undef, tmps.getD 152 undef, tmps.getD 153 undef, tmps.getD 154 undef, tmps.getD 155 undef, tmps.getD 156 undef, tmps.getD 157 undef, tmps.getD 158 undef, tmps.getD 159 undef, tmps.getD 160 undef, tmps.getD 161 undef, tmps.getD 162 undef, tmps.getD 163 undef, tmps.getD 164 undef, tmps.getD 165 undef, tmps.getD 166 undef, tmps.getD 167 undef, tmps.getD 168 undef, tmps.getD 169 undef, tmps.getD 170 undef, tmps.getD 171 undef, tmps.getD 172 undef, tmps.getD 173 undef, tmps.getD 174 undef] := by
  have h1 : tmps.toList = (List.range 175).map (fun i => tmps.getD i undef) := by
    apply List.ext_getElem
    · simp [h]
    · intro i h2 h3
      simp at h2
      simp [h2]
  calc tmps = ⟨tmps.toList⟩ := rfl
    _ = ⟨(List.range 175).map (fun i => tmps.getD i undef)⟩ := by rw [h1]
    _ = _ := rfl
theorem FrE.frame {a : Act} {s0 s1 s3 s10 s11 s12 s13 : Value} (h : FrE a s0 s1 s3 s10 s11 s12 s13) : ∃ f : Nat → Value, (∀ i, a.tmps.getD i undef = f i) ∧ a = { tmps := #[s0, s1, f 2, s3, f 4, f 5, f 6, f 7, f 8, f 9, s10, s11, s12, s13, f 14, f 15, f 16, f 17, f 18, f 19, f 20, f 21, f 22, f 23, f 24, f 25, f 26, f 27, f 28, f 29, f 30, f 31, f 32, f 33, f 34, f 35, f 36, f 37, f 38, f 39, f 40, f 41, f 42, f 43, f 44, f 45, f 46, f 47, f 48, f 49, f 50, f 51, f 52, f 53, f 54, f 55, f 56, f 57, f 58, f 59, f 60, f 61, f 62, f 63, f 64, f 65, f 66, f 67, f 68, f 69, f 70, f 71, f 72, f 73, f 74, f 75, f 76, f 77, f 78, f 79, f 80, f 81, f 82, f 83, f 84, f 85, f 86, f 87, f 88, f 89, f 90, f 91, f 92, f 93, f 94, f 95, f 96, f 97, f 98, f 99, f 100, f 101, f 102, f 103, f 104, f 105, f 106, f 107, f 108, f 109, f 110, f 111, f 112, f 113, f 114, f 115, f 116, f 117, f 118, f 119, f 120, f 121, f 122, f 123, f 124, f 125, f 126, f 127, f 128, f 129, f 130, f 131, f 132, f 133, f 134, f 135, f 136, f 137, f 138, f 139, f 140, f 141, f 142, f 143, f 144, f 145, f 146, f 147, f 148, f 149, f 150, f 151, f 152, f 153, f 154, f 155, f 156, f 157, f 158, f 159, f 160, f 161, f 162, f 163, f 164, f 165, f 166, f 167, f 168, f 169, f 170, f 171, f 172, f 173, f 174], defers := [] } := by
  refine ⟨fun i => a.tmps.getD i undef, fun _ => rfl, ?_⟩
  obtain ⟨tmps, defers⟩ := a
  have h1 := FrE_slots tmps h.size
  rw [h.e0, h.e1, h.e3, h.e10, h.e11, h.e12, h.e13] at h1
  have h2 := h.marks
  simp only at h2
  rw [h2]
  exact congrArg (fun t => Act.mk t []) h1

open Classical in
set_option maxRecDepth 3000 in
set_option maxHeartbeats 16000000 in
theorem tidyLeast_any (vX : Value) (a : List Tx) (vY : Value) (b : List Tx) (n : Int) (vI : Value) (zs : List Int) (w : World) (hX : RowAt w vX a) (hlX : a.length ≤ 8796093022208) (hfX : FitT a) (hY : RowAt w vY b) (hlY : b.length ≤ 8796093022208) (hfY : FitT b) (hI : IntsAt w vI zs) (hlI : zs.length ≤ 4611686018427387904) :
    Calls Try.prog 6 #[vX, vY, .int .i64 n, vI] w fun e w' => e = .returned (.bool true) ∧ Below w.heap.size w w' := by
  have HX0 := hidden hX
  have HY0 := hidden hY
  have HI0 := hidden hI
  have HB0 := hidden (Below.refl w.heap.size w)
  have HFX := hidden hfX
  have HFY := hidden hfY
  obtain ⟨aX, cX, rfl⟩ := hX.shape
  obtain ⟨aY, cY, rfl⟩ := hY.shape
  obtain ⟨aI, cI, rfl⟩ := hI.shape
  clear hX hY hI hfX hfY
  go_enter Try.func6, Try.ntmps6
  go_wp2_with fail
  refine (alive13_any _).mono ?_
  rintro e w1 ⟨rfl, hb⟩
  have HX1 := hidden (HX0.out.later hb)
  have HY1 := hidden (HY0.out.later hb)
  have HI1 := hidden (HI0.out.later hb)
  have HB1 := hidden (HB0.out.trans (hb.mono HB0.out.size))
  clear hb
  by_cases hsa : a.length ≤ 20
  case neg =>
    have hd1 : decide ((a.length : Int) > 20) = true := by simp; omega
    have hd3 : decide (20 < a.length) = true := by simp; omega
    clear hsa
    go_wp2_with fail
    go_ret
    exact ⟨by first | rfl | simp, HB1.out⟩
  case pos =>
  have hda1 : decide ((a.length : Int) > 20) = false := by simp; omega
  have hda3 : decide (20 < a.length) = false := by simp; omega
  by_cases hsb : b.length ≤ 20
  case neg =>
    have hd1 : decide ((b.length : Int) > 20) = true := by simp; omega
    have hd3 : decide (20 < b.length) = true := by simp; omega
    clear hsb
    go_wp2_with fail
    go_ret
    exact ⟨by first | rfl | simp, HB1.out⟩
  case pos =>
  have hdb1 : decide ((b.length : Int) > 20) = false := by simp; omega
  have hdb3 : decide (20 < b.length) = false := by simp; omega
  by_cases hn1 : n < 1
  case pos =>
    go_wp2_with fail
    go_ret
    exact ⟨by first | rfl | simp, HB1.out⟩
  case neg =>
  by_cases hn2 : n > 100
  case pos =>
    go_wp2_with fail
    go_ret
    exact ⟨by first | rfl | simp, HB1.out⟩
  case neg =>
  by_cases hz40 : zs.length < 40
  case pos =>
    have hd1 : decide ((zs.length : Int) < 40) = true := by simp; omega
    have hd3 : decide (zs.length < 40) = true := by simp; omega
    go_wp2_with fail
    go_ret
    exact ⟨by first | rfl | simp, HB1.out⟩
  case neg =>
  have hdz1 : decide ((zs.length : Int) < 40) = false := by simp; omega
  have hdz3 : decide (zs.length < 40) = false := by simp; omega
  cases hca : clsB a with
  | false =>
    have HCa := hidden hca
    clear hca
    go_wp2_with fail
    refine (closed13_any _ a w1 HX1.out (by omega) HFX.out).mono ?_
    rw [HCa.out]
    rintro e w' ⟨rfl, hw⟩
    subst w'
    go_wp2_with fail
    go_ret
    exact ⟨by first | rfl | simp, HB1.out⟩
  | true =>
  have HCa := hidden hca
  clear hca
  go_wp2_with fail
  refine (closed13_any _ a w1 HX1.out (by omega) HFX.out).mono ?_
  rw [HCa.out]
  rintro e w' ⟨rfl, hw⟩
  subst w'
  cases hcb : clsB b with
  | false =>
    have HCb := hidden hcb
    clear hcb
    go_wp2_with fail
    refine (closed13_any _ b w1 HY1.out (by omega) HFY.out).mono ?_
    rw [HCb.out]
    rintro e w' ⟨rfl, hw⟩
    subst w'
    go_wp2_with fail
    go_ret
    exact ⟨by first | rfl | simp, HB1.out⟩
  | true =>
  have HCb := hidden hcb
  clear hcb
  go_wp2_with fail
  refine (closed13_any _ b w1 HY1.out (by omega) HFY.out).mono ?_
  rw [HCb.out]
  rintro e w' ⟨rfl, hw⟩
  subst w'
  clear hda1 hda3 hdb1 hdb3 hdz1 hdz3
  have HS0 := hidden (show LK w1 a b n 0 0 0 [] (.slice (some ⟨w1.heap.size, 0, none⟩) 1 1) (w1.alloc (opO 1 n [])) from
    ⟨bel_alloc (Below.refl _ _) _, owns_one (Nat.le_refl _) 1 n [], ⟨rfl, rfl, (fun x hx => by cases hx), by simp⟩, Or.inr (Nat.zero_le _)⟩)
  obtain ⟨_, _, hsh, hcX⟩ := HX1.out.open_
  cases hsh
  have HCX := hidden hcX
  obtain ⟨_, _, hsh, hcY⟩ := HY1.out.open_
  cases hsh
  have HCY := hidden hcY
  obtain ⟨_, _, hsh, hcI⟩ := HI1.out.open_
  cases hsh
  have HCI := hidden hcI
  clear hcX hcY hcI
  go_wp2_with fail
  refine wp_loop_ghost_k (fun g a' wr => ∃ (m i k : Nat) (c : List Oq) (vo : Value), m ≤ 40 ∧ i ≤ a.length ∧ k ≤ b.length ∧ FrE a' (.slice aX a.length cX) (.slice aY b.length cY) (.slice aI zs.length cI) vo (.int .i64 i) (.int .i64 k) (.int .i64 m) ∧ Hid (g = 40 - m ∧ LK w1 a b n m i k c vo wr)) 40 ?start ?round
  case start => exact ⟨0, 0, 0, [], _, Nat.zero_le _, Nat.zero_le _, Nat.zero_le _, ⟨rfl, rfl, rfl, rfl, rfl, rfl, rfl, rfl, rfl⟩, ⟨rfl, HS0.out⟩⟩
  case round =>
  intro gk _ wr hinv
  obtain ⟨m, i, k, c, u10, hm, hi, hk, hfr, hgs⟩ := hinv
  obtain ⟨ff, hff, ha⟩ := hfr.frame
  clear hff hfr HS0
  subst ha
  try dsimp only
  intro _ _ _ _
  have HG := hidden hgs.out.1
  have HK := hidden hgs.out.2
  clear hgs
  have hcl : c.length ≤ 40 := by have := HK.out.ls.ln; omega
  have hbs := HK.out.bel.size
  obtain ⟨o10, c10, hv⟩ : ∃ a c', u10 = .slice a (c.length + 1) c' := (OpsAt.of_owns HK.out.own).shape
  subst hv
  by_cases hm40 : m < 40
  case neg =>
    have HE := hidden (show i = a.length ∧ k = b.length by rcases HK.out.on_ with h | h <;> omega)
    have HLS := hidden (show LS a b a.length b.length c by have := HK.out.ls; rwa [HE.out.1, HE.out.2] at this)
    obtain ⟨r1, r2⟩ := least ⟨by omega, by omega⟩ HCa.out HCb.out hsa hsb HLS.out
    have HRL := hidden r1
    obtain ⟨l, hl⟩ : ∃ l, ((1, n, []) :: c : List Oq) = l := ⟨_, rfl⟩
    have HL0 := hidden (OpsAt.of_owns HK.out.own)
    have hll : l.length ≤ 41 := by rw [← hl]; simp; omega
    have HFL := hidden (show Fit l by
      rw [← hl]
      intro x hx
      rcases List.mem_cons.1 hx with rfl | hx
      · simp
      · rcases (HK.out.ls.kd x hx).2.2 with h | h
        · exact HFX.out _ h
        · exact HFY.out _ h)
    rw [hl] at r2 HL0 HRL
    have hct := chs_tdy HRL.out
    obtain ⟨z, hz⟩ : ∃ z, lc a b = z := ⟨_, rfl⟩
    have HZ := hidden hz
    have hz1 : z ≤ a.length := by rw [← hz]; exact (lc_le a b).1
    have hz2 : z ≤ b.length := by rw [← hz]; exact (lc_le a b).2
    obtain ⟨cx, hcx⟩ : ∃ z, chs (tdy l) = z := ⟨_, rfl⟩
    obtain ⟨cy, hcy⟩ : ∃ z, chs l = z := ⟨_, rfl⟩
    have HXC := hidden hcx
    have HYC := hidden hcy
    rw [hz, hcx] at r2
    rw [hcx, hcy] at hct
    have hcyl : cy ≤ 41 := by rw [← hcy]; exact Nat.le_trans (List.length_filter_le _ _) hll
    obtain ⟨bi, hbi⟩ : ∃ b', decide (a = b) = b' := ⟨_, rfl⟩
    have HBI := hidden hbi
    have HID := hidden (show decide (chs (tdy l) = 0) = bi by
      rw [← hbi]
      refine decide_eq_decide.2 ?_
      rw [← df_idle, (df_len a b).2, hcx, hz]
      omega)
    have HLT := hidden (show (tdy l).length ≤ 4398046511104 from Nat.le_trans tdy_len (by decide))
    have HLA := hidden (show a.length ≤ 4398046511104 by omega)
    have HLB := hidden (show b.length ≤ 4398046511104 by omega)
    have e1 : ((cx : Int) == (a.length : Int) + b.length - 2 * z) = true := by simp; omega
    have e2 : decide ((cx : Int) ≤ cy) = true := by simp; omega
    have e3 : decide (cx ≤ cy) = true := by simp; omega
    have e4 : (bi == bi) = true := by simp
    have hb := HK.out.bel
    have HX9 := hidden (HX1.out.later hb)
    have HY9 := hidden (HY1.out.later hb)
    have HB9 := hidden (HB1.out.trans (hb.mono HB1.out.size))
    clear r1 hz hcx hcy hbi hb hl
    obtain ⟨w9, hwr⟩ : ∃ W, W = wr := ⟨_, rfl⟩
    subst hwr
    have HL9 := hidden HL0.out
    clear HL0 HX1 HY1 HB1 HI1 HCI HCX HCY HK
    go_wp2_with fail
    refine (tidy_any _ l w9 HL9.out (by omega) HFL.out).mono ?_
    rintro e w10 ⟨q1, rfl, ho, hb⟩
    have HX10 := hidden (HX9.out.later hb)
    have HY10 := hidden (HY9.out.later hb)
    have HL10 := hidden (HL9.out.later hb)
    have HB10 := hidden (HB9.out.trans (hb.mono HB9.out.size))
    clear hb
    clear HX9 HY9 HL9 HB9
    have HT10 := hidden ho
    clear ho
    obtain ⟨q1a, q1n, q1c, rfl⟩ : ∃ a n c, q1 = .slice a n c := by obtain ⟨a, c, e⟩ := HT10.out.shape; exact ⟨_, _, _, e⟩
    go_wp2_with fail
    refine (pchanges_any _ (tdy l) w10 HT10.out HLT.out).mono ?_
    rw [HXC.out]
    rintro e w11 ⟨rfl, hb⟩
    have HX11 := hidden (HX10.out.later hb)
    have HY11 := hidden (HY10.out.later hb)
    have HL11 := hidden (HL10.out.later hb)
    have HT11 := hidden (HT10.out.later hb)
    have HB11 := hidden (HB10.out.trans (hb.mono HB10.out.size))
    clear hb
    clear HX10 HY10 HL10 HT10 HB10
    go_wp2_with fail
    refine (plcslen_any _ _ a b w11 HX11.out HY11.out (by omega) (by omega)).mono ?_
    rw [HZ.out]
    rintro e w12 ⟨rfl, hb⟩
    have HX12 := hidden (HX11.out.later hb)
    have HY12 := hidden (HY11.out.later hb)
    have HL12 := hidden (HL11.out.later hb)
    have HT12 := hidden (HT11.out.later hb)
    have HB12 := hidden (HB11.out.trans (hb.mono HB11.out.size))
    clear hb
    clear HX11 HY11 HL11 HT11 HB11
    go_wp2_with fail
    refine (pchanges_any _ (tdy l) w12 HT12.out HLT.out).mono ?_
    rw [HXC.out]
    rintro e w13 ⟨rfl, hb⟩
    have HX13 := hidden (HX12.out.later hb)
    have HY13 := hidden (HY12.out.later hb)
    have HL13 := hidden (HL12.out.later hb)
    have HT13 := hidden (HT12.out.later hb)
    have HB13 := hidden (HB12.out.trans (hb.mono HB12.out.size))
    clear hb
    clear HX12 HY12 HL12 HT12 HB12
    go_wp2_with fail
    refine (pchanges_any _ l w13 HL13.out (by omega)).mono ?_
    rw [HYC.out]
    rintro e w14 ⟨rfl, hb⟩
    have HX14 := hidden (HX13.out.later hb)
    have HY14 := hidden (HY13.out.later hb)
    have HL14 := hidden (HL13.out.later hb)
    have HT14 := hidden (HT13.out.later hb)
    have HB14 := hidden (HB13.out.trans (hb.mono HB13.out.size))
    clear hb
    clear HX13 HY13 HL13 HT13 HB13
    go_wp2_with fail
    refine (idle_any _ l w14 HL14.out (by omega) HFL.out).mono ?_
    rw [HID.out]
    rintro e w15 ⟨rfl, hb⟩
    have HX15 := hidden (HX14.out.later hb)
    have HY15 := hidden (HY14.out.later hb)
    have HL15 := hidden (HL14.out.later hb)
    have HT15 := hidden (HT14.out.later hb)
    have HB15 := hidden (HB14.out.trans (hb.mono HB14.out.size))
    clear hb
    clear HX14 HY14 HL14 HT14 HB14
    go_wp2_with fail
    refine (sameTexts_any _ _ a b w15 HX15.out HY15.out HLA.out HLB.out).mono ?_
    rw [HBI.out]
    rintro e w16 ⟨rfl, hb⟩
    have HX16 := hidden (HX15.out.later hb)
    have HY16 := hidden (HY15.out.later hb)
    have HL16 := hidden (HL15.out.later hb)
    have HT16 := hidden (HT15.out.later hb)
    have HB16 := hidden (HB15.out.trans (hb.mono HB15.out.size))
    clear hb
    clear HX15 HY15 HL15 HT15 HB15
    go_wp2_with fail
    go_ret
    exact ⟨by first | rfl | simp, HB16.out⟩
  case pos =>
  have HG9 := hidden (show 40 - (m + 1) < gk by have := HG.out; omega)
  obtain ⟨z, hz⟩ : ∃ z, zs[m]? = some z := ⟨zs[m]'(by omega), List.getElem?_eq_getElem _⟩
  obtain ⟨b3, o3, hio, hcp3, hb3, cz⟩ := HCI.out m z hz
  subst hio
  have hmz : m < zs.length := by omega
  have HB1' := hidden HB1.out
  clear hz
  go_upto_region 10 with fail
  refine wp_cut (fun a' wx => FrE a' (.slice aX a.length cX) (.slice aY b.length cY) (.slice (some ⟨b3, o3, none⟩) zs.length cI) (.slice o10 (c.length + 1) c10) (.int .i64 i) (.int .i64 k) (.int .i64 m) ∧ a'.tmps.getD 59 undef = .bool (decide (E1 a b i k z)) ∧ Hid (LK w1 a b n m i k c (.slice o10 (c.length + 1) c10) wx)) ?rest ?first
  case first =>
    intro J9 K9 hJ9 hK9
    have cz2 := (HK.out.bel.cell (p := ⟨b3, o3 + m, none⟩) hb3).trans cz
    by_cases h : i < a.length
    · by_cases h2 : k < b.length
      · obtain ⟨x, hx⟩ : ∃ x, a[i]? = some x := ⟨a[i]'h, List.getElem?_eq_getElem _⟩
        obtain ⟨y, hy⟩ : ∃ y, b[k]? = some y := ⟨b[k]'h2, List.getElem?_eq_getElem _⟩
        obtain ⟨b1, o1, hao, hcp1, hb1, cx⟩ := HCX.out i x hx
        obtain ⟨b2, o2, hbo, hcp2, hb2, cy⟩ := HCY.out k y hy
        subst hao hbo
        have cx2 := (HK.out.bel.cell (p := ⟨b1, o1 + i, none⟩) hb1).trans cx
        have cy2 := (HK.out.bel.cell (p := ⟨b2, o2 + k, none⟩) hb2).trans cy
        obtain ⟨bt, hbt⟩ : ∃ bt, bits BinOp.and IntKind.i64 z 1 = bt := ⟨_, rfl⟩
        have HC := hidden (show E1 a b i k z ↔ x = y ∧ bt = 0 by
          unfold E1
          rw [hx, hy, hbt]
          simp [h, h2])
        clear hx hy cx cy
        by_cases hxy : x = y
        · subst hxy
          have hqq : (x == x) = true := by simp
          have HE := hidden (show decide (E1 a b i k z) = (bt == 0) by rw [Bool.eq_iff_iff, decide_eq_true_iff, HC.out]; simp)
          go_region
          first | refine Met.intro (hJ9 _ _ ?_) | refine hK9 _ _ (Met.intro (hJ9 _ _ ?_))
          exact ⟨⟨rfl, rfl, rfl, rfl, rfl, rfl, rfl, rfl, rfl⟩, by rw [HE.out]; rfl, by first | exact HK.out | exact HK.out.later (Below.refl _ _).drew⟩
        · have hqq : (x == y) = false := by simpa using hxy
          have HE := hidden (show decide (E1 a b i k z) = false from decide_eq_false fun e => hxy (HC.out.1 e).1)
          clear hxy
          go_region
          first | refine Met.intro (hJ9 _ _ ?_) | refine hK9 _ _ (Met.intro (hJ9 _ _ ?_))
          exact ⟨⟨rfl, rfl, rfl, rfl, rfl, rfl, rfl, rfl, rfl⟩, by rw [HE.out]; rfl, by first | exact HK.out | exact HK.out.later (Below.refl _ _).drew⟩
      · have HE := hidden (show decide (E1 a b i k z) = false from decide_eq_false fun e => h2 e.2.1)
        obtain rfl : k = b.length := by omega
        clear h2
        go_region
        first | refine Met.intro (hJ9 _ _ ?_) | refine hK9 _ _ (Met.intro (hJ9 _ _ ?_))
        exact ⟨⟨rfl, rfl, rfl, rfl, rfl, rfl, rfl, rfl, rfl⟩, by rw [HE.out]; rfl, by first | exact HK.out | exact HK.out.later (Below.refl _ _).drew⟩
    · have HE := hidden (show decide (E1 a b i k z) = false from decide_eq_false fun e => h e.1)
      obtain rfl : i = a.length := by omega
      clear h
      go_region
      first | refine Met.intro (hJ9 _ _ ?_) | refine hK9 _ _ (Met.intro (hJ9 _ _ ?_))
      exact ⟨⟨rfl, rfl, rfl, rfl, rfl, rfl, rfl, rfl, rfl⟩, by rw [HE.out]; rfl, by first | exact HK.out | exact HK.out.later (Below.refl _ _).drew⟩
  case rest =>
  intro _ wc hinv
  obtain ⟨hfr, hv, HK1⟩ := hinv
  obtain ⟨ff3, hff, ha⟩ := hfr.frame
  rw [hff 59] at hv
  clear hff hfr
  subst ha
  try dsimp only
  rw [hv]
  clear hv HK hbs
  have hbs := HK1.out.bel.size
  have cz2 := (HK1.out.bel.cell (p := ⟨b3, o3 + m, none⟩) hb3).trans cz
  clear cz
  by_cases hc1 : E1 a b i k z
  case pos =>
    rw [decide_eq_true hc1]
    have hia : i < a.length := hc1.1
    have hkb : k < b.length := hc1.2.1
    have HAB := hidden hc1.2.2.1
    clear hc1
    obtain ⟨x, hx⟩ : ∃ x, a[i]? = some x := ⟨a[i]'hia, List.getElem?_eq_getElem _⟩
    obtain ⟨b1, o1, hao, hcp1, hb1, cx⟩ := HCX.out i x hx
    subst hao
    have cx2 := (HK1.out.bel.cell (p := ⟨b1, o1 + i, none⟩) hb1).trans cx
    have HXX := hidden hx
    clear cx hx
    have HBX := hidden (show b[k]? = some x by rw [← HAB.out]; exact HXX.out)
    have hlen : ((1, n, []) :: c : List Oq).length = c.length + 1 := rfl
    go_wp2_with (at_builtin; go_must (refine wpList_append_ops _ (by go_simp) (.tmp 89) (.tmp 95) rfl w1.heap.size _ (.slice (some ⟨wc.heap.size, 0, none⟩) 1 1) ((1, n, []) :: c) [(2, 0, x)] rfl rfl (HK1.out.own.alloc _) (ops_oneAt _ _ _ _ _ (by simp)) (by rw [hlen]; simp; omega) (by simp; omega) ?_; intro v9 w9' hown9 hadd9))
    have HN9 := hidden (HK1.out.add hown9 hadd9 (HK1.out.ls.keep HXX.out HBX.out) (by omega) (by omega))
    clear hown9 hadd9
    refine Handed.intro (40 - (m + 1)) HG9.out ?_
    go_step
    exact ⟨m + 1, i + 1, k + 1, _, _, by omega, by omega, by omega, ⟨rfl, rfl, rfl, rfl, rfl, rfl, rfl, rfl, rfl⟩, ⟨rfl, HN9.out⟩⟩
  case neg =>
  rw [decide_eq_false hc1]
  clear hc1
  obtain ⟨bu, hbu⟩ : ∃ bu, bits BinOp.and IntKind.i64 z 2 = bu := ⟨_, rfl⟩
  by_cases hia : i < a.length
  case pos =>
    by_cases hu0 : bu = 0
    case pos =>
      subst hu0
      obtain ⟨x, hx⟩ : ∃ x, a[i]? = some x := ⟨a[i]'hia, List.getElem?_eq_getElem _⟩
      obtain ⟨b1, o1, hao, hcp1, hb1, cx⟩ := HCX.out i x hx
      subst hao
      have cx2 := (HK1.out.bel.cell (p := ⟨b1, o1 + i, none⟩) hb1).trans cx
      have HXX := hidden hx
      clear cx hx
      have hlen : ((1, n, []) :: c : List Oq).length = c.length + 1 := rfl
      go_wp2_with (at_builtin; go_must (refine wpList_append_ops _ (by go_simp) (.tmp 120) (.tmp 126) rfl w1.heap.size _ (.slice (some ⟨wc.heap.size, 0, none⟩) 1 1) ((1, n, []) :: c) [(3, 0, x)] rfl rfl (HK1.out.own.alloc _) (ops_oneAt _ _ _ _ _ (by simp)) (by rw [hlen]; simp; omega) (by simp; omega) ?_; intro v9 w9' hown9 hadd9))
      have HN9 := hidden (HK1.out.add hown9 hadd9 (HK1.out.ls.del HXX.out) (by omega) (by omega))
      clear hown9 hadd9
      refine Handed.intro (40 - (m + 1)) HG9.out ?_
      go_step
      exact ⟨m + 1, i + 1, k, _, _, by omega, by omega, by omega, ⟨rfl, rfl, rfl, rfl, rfl, rfl, rfl, rfl, rfl⟩, ⟨rfl, HN9.out⟩⟩
    case neg =>
    have hu0b : (bu == 0) = false := by simpa using hu0
    clear hu0
    by_cases hkb : k < b.length
    case neg =>
      obtain rfl : k = b.length := by omega
      clear hkb
      obtain ⟨x, hx⟩ : ∃ x, a[i]? = some x := ⟨a[i]'hia, List.getElem?_eq_getElem _⟩
      obtain ⟨b1, o1, hao, hcp1, hb1, cx⟩ := HCX.out i x hx
      subst hao
      have cx2 := (HK1.out.bel.cell (p := ⟨b1, o1 + i, none⟩) hb1).trans cx
      have HXX := hidden hx
      clear cx hx
      have hlen : ((1, n, []) :: c : List Oq).length = c.length + 1 := rfl
      go_wp2_with (at_builtin; go_must (refine wpList_append_ops _ (by go_simp) (.tmp 120) (.tmp 126) rfl w1.heap.size _ (.slice (some ⟨wc.heap.size, 0, none⟩) 1 1) ((1, n, []) :: c) [(3, 0, x)] rfl rfl (HK1.out.own.alloc _) (ops_oneAt _ _ _ _ _ (by simp)) (by rw [hlen]; simp; omega) (by simp; omega) ?_; intro v9 w9' hown9 hadd9))
      have HN9 := hidden (HK1.out.add hown9 hadd9 (HK1.out.ls.del HXX.out) (by omega) (by omega))
      clear hown9 hadd9
      refine Handed.intro (40 - (m + 1)) HG9.out ?_
      go_step
      exact ⟨m + 1, i + 1, b.length, _, _, by omega, by omega, by omega, ⟨rfl, rfl, rfl, rfl, rfl, rfl, rfl, rfl, rfl⟩, ⟨rfl, HN9.out⟩⟩
    case pos =>
    have hkbn : ((k : Int) == b.length) = false := by simp; omega
    obtain ⟨y, hy⟩ : ∃ y, b[k]? = some y := ⟨b[k]'hkb, List.getElem?_eq_getElem _⟩
    obtain ⟨b2, o2, hbo, hcp2, hb2, cy⟩ := HCY.out k y hy
    subst hbo
    have cy2 := (HK1.out.bel.cell (p := ⟨b2, o2 + k, none⟩) hb2).trans cy
    have HYY := hidden hy
    clear cy hy
    have hlen : ((1, n, []) :: c : List Oq).length = c.length + 1 := rfl
    go_wp2_with (at_builtin; go_must (refine wpList_append_ops _ (by go_simp) (.tmp 135) (.tmp 141) rfl w1.heap.size _ (.slice (some ⟨wc.heap.size, 0, none⟩) 1 1) ((1, n, []) :: c) [(4, 0, y)] rfl rfl (HK1.out.own.alloc _) (ops_oneAt _ _ _ _ _ (by simp)) (by rw [hlen]; simp; omega) (by simp; omega) ?_; intro v9 w9' hown9 hadd9))
    have HN9 := hidden (HK1.out.add hown9 hadd9 (HK1.out.ls.ins HYY.out) (by omega) (by omega))
    clear hown9 hadd9
    refine Handed.intro (40 - (m + 1)) HG9.out ?_
    go_step
    exact ⟨m + 1, i, k + 1, _, _, by omega, by omega, by omega, ⟨rfl, rfl, rfl, rfl, rfl, rfl, rfl, rfl, rfl⟩, ⟨rfl, HN9.out⟩⟩
  case neg =>
  obtain rfl : i = a.length := by omega
  clear hia
  by_cases hkb : k < b.length
  case pos =>
    obtain ⟨y, hy⟩ : ∃ y, b[k]? = some y := ⟨b[k]'hkb, List.getElem?_eq_getElem _⟩
    obtain ⟨b2, o2, hbo, hcp2, hb2, cy⟩ := HCY.out k y hy
    subst hbo
    have cy2 := (HK1.out.bel.cell (p := ⟨b2, o2 + k, none⟩) hb2).trans cy
    have HYY := hidden hy
    clear cy hy
    have hlen : ((1, n, []) :: c : List Oq).length = c.length + 1 := rfl
    go_wp2_with (at_builtin; go_must (refine wpList_append_ops _ (by go_simp) (.tmp 135) (.tmp 141) rfl w1.heap.size _ (.slice (some ⟨wc.heap.size, 0, none⟩) 1 1) ((1, n, []) :: c) [(4, 0, y)] rfl rfl (HK1.out.own.alloc _) (ops_oneAt _ _ _ _ _ (by simp)) (by rw [hlen]; simp; omega) (by simp; omega) ?_; intro v9 w9' hown9 hadd9))
    have HN9 := hidden (HK1.out.add hown9 hadd9 (HK1.out.ls.ins HYY.out) (by omega) (by omega))
    clear hown9 hadd9
    refine Handed.intro (40 - (m + 1)) HG9.out ?_
    go_step
    exact ⟨m + 1, a.length, k + 1, _, _, by omega, by omega, by omega, ⟨rfl, rfl, rfl, rfl, rfl, rfl, rfl, rfl, rfl⟩, ⟨rfl, HN9.out⟩⟩
  case neg =>
  obtain rfl : k = b.length := by omega
  clear hkb
  have HN9 := hidden (show LK w1 a b n (m + 1) a.length b.length c (.slice o10 (c.length + 1) c10) wc from ⟨HK1.out.bel, HK1.out.own, HK1.out.ls, Or.inl ⟨rfl, rfl⟩⟩)
  go_wp2_with fail
  refine Handed.intro (40 - (m + 1)) HG9.out ?_
  go_step
  exact ⟨m + 1, a.length, b.length, c, _, by omega, Nat.le_refl _, Nat.le_refl _, ⟨rfl, rfl, rfl, rfl, rfl, rfl, rfl, rfl, rfl⟩, ⟨rfl, HN9.out⟩⟩

end Go.Proofs.Ytbbbphlojefgjaa
