/-
  What the document's own one, classAt and next answer at any place of a text; condition: the text's length.
-/
import Derived.Test.YtjlihidmohokhaaRCls
namespace Go.Proofs.Ytjlihidmohokhaa
open Go.RowKit Go.Proofs.Ytjlihidmohokhaa.Gl

theorem nine : ∀ (l : Tx), 9 ≤ l.length → ∃ x0 x1 x2 x3 x4 x5 x6 x7 x8 r, l = x0 :: x1 :: x2 :: x3 :: x4 :: x5 :: x6 :: x7 :: x8 :: r
  | x0 :: x1 :: x2 :: x3 :: x4 :: x5 :: x6 :: x7 :: x8 :: r, _ => ⟨x0, x1, x2, x3, x4, x5, x6, x7, x8, r, rfl⟩
  | [], h => by simp at h
  | [_], h => by simp at h
  | [_, _], h => by simp at h
  | [_, _, _], h => by simp at h
  | [_, _, _, _], h => by simp at h
  | [_, _, _, _, _], h => by simp at h
  | [_, _, _, _, _, _], h => by simp at h
  | [_, _, _, _, _, _, _], h => by simp at h
  | [_, _, _, _, _, _, _, _], h => by simp at h
theorem named_len {t : Tx} (h : (named t).isSome = true) : t.length = 5 := by
  unfold named at h
  split at h
  · subst_vars; rfl
  split at h
  · subst_vars; rfl
  split at h
  · subst_vars; rfl
  split at h
  · subst_vars; rfl
  split at h
  · subst_vars; rfl
  split at h
  · subst_vars; rfl
  · cases h
theorem named_zero {t : Tx} (h : (named t).isSome = true) : t ≠ [] := fun e => by have := named_len h; rw [e] at this; cases this
/-- a class's own name -/
theorem cls_named {l : Tx} (h : isCls l = true) : named ((l.drop 2).take 5) = some (classSet (l.take 9)) ∧ l.getD 0 0 = 91 ∧ l.getD 1 0 = 58 ∧ l.getD 7 0 = 58 ∧ l.getD 8 0 = 93 := by
  obtain ⟨a, b, c, d, e, r, rfl, hk⟩ := isCls_split h
  refine ⟨?_, rfl, rfl, rfl, rfl⟩
  simp only [List.take_succ_cons, List.take_zero, List.drop_succ_cons, List.drop_zero] at hk ⊢
  rcases hk with hk | hk | hk | hk | hk | hk <;>
    (have hk2 := hk
     simp only [tAlpha, tDigit, tUpper, tLower, tAlnum, tSpace, List.cons.injEq] at hk2
     obtain ⟨_, _, rfl, rfl, rfl, rfl, rfl, _⟩ := hk2
     rfl)
theorem cls_of_named {l : Tx} (hl : 9 ≤ l.length) (h0 : l.getD 0 0 = 91) (h1 : l.getD 1 0 = 58) (h7 : l.getD 7 0 = 58) (h8 : l.getD 8 0 = 93) (hn : (named ((l.drop 2).take 5)).isSome = true) : isCls l = true := by
  obtain ⟨x0, x1, x2, x3, x4, x5, x6, x7, x8, r, rfl⟩ := nine l hl
  simp only [List.getD_cons_zero, List.getD_cons_succ] at h0 h1 h7 h8
  subst h0 h1 h7 h8
  simp only [List.take_succ_cons, List.take_zero, List.drop_succ_cons, List.drop_zero] at hn
  unfold named at hn
  split at hn
  · rename_i e; simp only [nAlpha, List.cons.injEq] at e; obtain ⟨rfl, rfl, rfl, rfl, rfl, _⟩ := e; rfl
  split at hn
  · rename_i e; simp only [nDigit, List.cons.injEq] at e; obtain ⟨rfl, rfl, rfl, rfl, rfl, _⟩ := e; rfl
  split at hn
  · rename_i e; simp only [nUpper, List.cons.injEq] at e; obtain ⟨rfl, rfl, rfl, rfl, rfl, _⟩ := e; rfl
  split at hn
  · rename_i e; simp only [nLower, List.cons.injEq] at e; obtain ⟨rfl, rfl, rfl, rfl, rfl, _⟩ := e; rfl
  split at hn
  · rename_i e; simp only [nAlnum, List.cons.injEq] at e; obtain ⟨rfl, rfl, rfl, rfl, rfl, _⟩ := e; rfl
  split at hn
  · rename_i e; simp only [nSpace, List.cons.injEq] at e; obtain ⟨rfl, rfl, rfl, rfl, rfl, _⟩ := e; rfl
  · cases hn

set_option maxHeartbeats 2000000 in
theorem refOne_true (p : Tx) (at_ : Nat) (w : World) (hp : p.length ≤ 1048576) (ha : at_ < p.length) :
    Calls Try.prog 62 #[S p, .int .i64 at_, .bool true] w fun e w' => e = .returned (.tuple #[.int .i64 (byteVal true (p.drop at_)).toNat, .int .i64 (at_ + byteLen true (p.drop at_) : Nat)]) ∧ w' = w := by
  obtain ⟨c, hc⟩ : ∃ c, c = p.getD at_ 0 := ⟨_, rfl⟩
  have hb : ∀ h, (⟨p.toArray⟩ : ByteArray)[at_]'h = c := fun h => by rw [byte_at, hc]
  have hd : (p.drop at_).length = p.length - at_ := List.length_drop
  have H0 := hidden (show (p.drop at_).getD 0 0 = c by rw [drop_getD, hc]; rfl)
  unfold S
  by_cases h1 : c = 92
  · subst h1
    by_cases h2 : at_ + 1 < p.length
    · have h3 : (at_ : Int) + 1 < p.length := by omega
      have he : esc true (p.drop at_) = true := by unfold esc; rw [H0.out, hd]; simp; omega
      have HV := hidden (show byteVal true (p.drop at_) = p.getD (at_ + 1) 0 by unfold byteVal; rw [if_pos he, drop_getD])
      have HL := hidden (show byteLen true (p.drop at_) = 2 by unfold byteLen; rw [if_pos he])
      obtain ⟨d, hd2⟩ : ∃ d, d = p.getD (at_ + 1) 0 := ⟨_, rfl⟩
      have hb2 : ∀ h, (⟨p.toArray⟩ : ByteArray)[at_ + 1]'h = d := fun h => by rw [byte_at, hd2]
      have HD := hidden hd2
      have hd9 : d.toNat < 256 := d.toNat_lt
      clear hc he hd2
      go_enter Try.func62, Try.ntmps62
      go_wp2
      go_ret2
      exact ⟨by rw [HV.out, HL.out, ← HD.out]; rfl, rfl⟩
    · have h3 : ¬ (at_ : Int) + 1 < p.length := by omega
      have he : ¬ esc true (p.drop at_) = true := by unfold esc; rw [hd]; simp; omega
      have HV := hidden (show byteVal true (p.drop at_) = 92 by unfold byteVal; rw [if_neg he, H0.out])
      have HL := hidden (show byteLen true (p.drop at_) = 1 by unfold byteLen; rw [if_neg he])
      clear hc he
      go_enter Try.func62, Try.ntmps62
      go_wp2
      go_ret2
      exact ⟨by rw [HV.out, HL.out]; rfl, rfl⟩
  · have h2 := byte_ne (n := 92) h1
    have he : ¬ esc true (p.drop at_) = true := by unfold esc; rw [H0.out]; simp [h1]
    have HV := hidden (show byteVal true (p.drop at_) = c by unfold byteVal; rw [if_neg he, H0.out])
    have HL := hidden (show byteLen true (p.drop at_) = 1 by unfold byteLen; rw [if_neg he])
    have hc9 : c.toNat < 256 := c.toNat_lt
    clear hc he
    go_enter Try.func62, Try.ntmps62
    go_wp2
    go_ret2
    exact ⟨by rw [HV.out, HL.out]; rfl, rfl⟩

set_option maxHeartbeats 2000000 in
theorem refOne_false (p : Tx) (at_ : Nat) (w : World) (hp : p.length ≤ 1048576) (ha : at_ < p.length) :
    Calls Try.prog 62 #[S p, .int .i64 at_, .bool false] w fun e w' => e = .returned (.tuple #[.int .i64 (byteVal false (p.drop at_)).toNat, .int .i64 (at_ + byteLen false (p.drop at_) : Nat)]) ∧ w' = w := by
  obtain ⟨c, hc⟩ : ∃ c, c = p.getD at_ 0 := ⟨_, rfl⟩
  have hb : ∀ h, (⟨p.toArray⟩ : ByteArray)[at_]'h = c := fun h => by rw [byte_at, hc]
  have HV := hidden (show byteVal false (p.drop at_) = c by unfold byteVal esc; rw [Bool.false_and, Bool.false_and, if_neg (by decide), drop_getD, hc]; rfl)
  have HL := hidden (show byteLen false (p.drop at_) = 1 by unfold byteLen esc; rw [Bool.false_and, Bool.false_and, if_neg (by decide)])
  have hc9 : c.toNat < 256 := c.toNat_lt
  unfold S
  clear hc
  go_enter Try.func62, Try.ntmps62
  go_wp2
  go_ret2
  exact ⟨by rw [HV.out, HL.out]; rfl, rfl⟩
theorem refOne_any (es : Bool) (p : Tx) (at_ : Nat) (w : World) (hp : p.length ≤ 1048576) (ha : at_ < p.length) :
    Calls Try.prog 62 #[S p, .int .i64 at_, .bool es] w fun e w' => e = .returned (.tuple #[.int .i64 (byteVal es (p.drop at_)).toNat, .int .i64 (at_ + byteLen es (p.drop at_) : Nat)]) ∧ w' = w := by
  cases es with
  | true => exact refOne_true p at_ w hp ha
  | false => exact refOne_false p at_ w hp ha

/-- classAt's answer -/
def atAns (p : Tx) (at_ : Nat) : Value := if isCls (p.drop at_) = true then .tuple #[S (((p.drop at_).drop 2).take 5), .int .i64 (at_ + 9 : Nat)] else .tuple #[S [], .int .i64 0]

set_option maxHeartbeats 4000000 in
theorem classAt_any (p : Tx) (at_ : Nat) (w : World) (hp : p.length ≤ 1048576) (ha : at_ ≤ p.length) :
    Calls Try.prog 61 #[S p, .int .i64 at_] w fun e w' => e = .returned (atAns p at_) ∧ w' = w := by
  have hdl : (p.drop at_).length = p.length - at_ := List.length_drop
  have no : isCls (p.drop at_) = false → atAns p at_ = .tuple #[.string ⟨#[]⟩, .int .i64 0] := fun h => by unfold atAns; rw [h]; rfl
  have HNO := hidden no
  clear no
  unfold S
  by_cases h1 : at_ + 1 < p.length
  · have h3 : (at_ : Int) + 1 < p.length := by omega
    obtain ⟨c, hc⟩ : ∃ c, c = p.getD at_ 0 := ⟨_, rfl⟩
    have hb : ∀ h, (⟨p.toArray⟩ : ByteArray)[at_]'h = c := fun h => by rw [byte_at, hc]
    obtain ⟨d, hd2⟩ : ∃ d, d = p.getD (at_ + 1) 0 := ⟨_, rfl⟩
    have hb2 : ∀ h, (⟨p.toArray⟩ : ByteArray)[at_ + 1]'h = d := fun h => by rw [byte_at, hd2]
    have HC0 := hidden (show (p.drop at_).getD 0 0 = c by rw [drop_getD, hc]; rfl)
    have HC1 := hidden (show (p.drop at_).getD 1 0 = d by rw [drop_getD, hd2])
    clear hc hd2
    by_cases e1 : c = 91
    · subst e1
      by_cases e2 : d = 58
      · subst e2
        go_enter Try.func61, Try.ntmps61
        go_wp2_with fail
        go_loop [6] (fun i => ∃ k : Nat, i = .int .i64 k ∧ at_ + 2 ≤ k ∧ k ≤ p.length + 1 ∧ Hid (at_ + 7 < k → isCls (p.drop at_) = false))
          (fun i => p.length + 1 - (intOf i).toNat)
        case atStart => exact ⟨at_ + 2, by go_num, Nat.le_refl _, by omega, fun h => by omega⟩
        case round =>
          obtain ⟨k, rfl, hk1, hk2, HI⟩ := hrel
          by_cases hlt : k + 1 < p.length
          · have hltI : (k : Int) + 1 < p.length := by omega
            obtain ⟨x, hx⟩ : ∃ x, x = p.getD k 0 := ⟨_, rfl⟩
            have hbx : ∀ h, (⟨p.toArray⟩ : ByteArray)[k]'h = x := fun h => by rw [byte_at, hx]
            obtain ⟨y, hy⟩ : ∃ y, y = p.getD (k + 1) 0 := ⟨_, rfl⟩
            have hby : ∀ h, (⟨p.toArray⟩ : ByteArray)[k + 1]'h = y := fun h => by rw [byte_at, hy]
            have HX := hidden (show at_ + 7 = k → (p.drop at_).getD 7 0 = x ∧ (p.drop at_).getD 8 0 = y from fun e => by rw [drop_getD, drop_getD, hx, hy, ← e]; exact ⟨rfl, rfl⟩)
            clear hx hy
            have HNE := hidden (show ¬ (x = 58 ∧ y = 93) → at_ + 7 < k + 1 → isCls (p.drop at_) = false from fun hn hk => by
              by_cases h7 : at_ + 7 = k
              · cases hc : isCls (p.drop at_) with
                | false => rfl
                | true =>
                  obtain ⟨_, _, _, q7, q8⟩ := cls_named hc
                  obtain ⟨r7, r8⟩ := HX.out h7
                  exact absurd ⟨r7.symm.trans q7, r8.symm.trans q8⟩ hn
              · exact HI.out (by omega))
            by_cases ex : x = 58
            · subst ex
              by_cases ey : y = 93
              · subst ey
                have hsl0 : (0 : Int) ≤ (at_ : Int) + 2 := by omega
                have hsl1 : (at_ : Int) + 2 ≤ (k : Int) := by omega
                have hsl2 : (k : Int) ≤ (p.length : Int) := by omega
                go_wp2_with fail
                rw [ext_text]
                obtain ⟨t, ht⟩ : ∃ t, t = (p.drop (at_ + 2)).take (k - (at_ + 2)) := ⟨_, rfl⟩
                rw [← ht]
                have htl : t.length = k - (at_ + 2) := by rw [ht, List.length_take, List.length_drop]; omega
                have HT := hidden ht
                clear ht
                refine (refClass_any t 0 (by omega) w).mono ?_
                rintro e w2 ⟨rfl, rfl⟩
                cases hnm : named t with
                | none =>
                  have HN := hidden (show at_ + 7 < k + 1 → isCls (p.drop at_) = false from fun hk => by
                    by_cases h7 : at_ + 7 = k
                    · cases hc : isCls (p.drop at_) with
                      | false => rfl
                      | true =>
                        have q := (cls_named hc).1
                        rw [List.drop_drop, show (5 : Nat) = k - (at_ + 2) by omega, ← HT.out, hnm] at q
                        cases q
                    · exact HI.out (by omega))
                  clear hnm htl
                  rw [show clsAns none 0 = .tuple #[.bool false, .bool false] from rfl]
                  go_wp2_with fail
                  first | (go_round; case rel => exact ⟨k + 1, by go_num, by omega, by omega, HN.out⟩; case measure => simp [intOf]; omega) | exact ⟨⟨k + 1, by go_num, by omega, by omega, HN.out⟩, by simp [intOf]; omega⟩
                | some f =>
                  have hl5 := named_len (t := t) (by rw [hnm]; rfl)
                  have hk7 : at_ + 7 = k := by omega
                  obtain ⟨r7, r8⟩ := HX.out hk7
                  have hcl : isCls (p.drop at_) = true := cls_of_named (by omega) HC0.out HC1.out r7 r8 (by rw [List.drop_drop, show (5 : Nat) = k - (at_ + 2) by omega, ← HT.out, hnm]; rfl)
                  have HA := hidden (show atAns p at_ = .tuple #[.string ⟨t.toArray⟩, .int .i64 (k + 2 : Nat)] by
                    unfold atAns S
                    rw [if_pos hcl, List.drop_drop, show (5 : Nat) = k - (at_ + 2) by omega, ← HT.out, show at_ + 9 = k + 2 by omega])
                  have HT2 := hidden (show (⟨p.toArray⟩ : ByteArray).extract (at_ + 2) k = ⟨t.toArray⟩ by rw [ext_text, ← HT.out])
                  rw [show clsAns (some f) 0 = .tuple #[.bool (f 0), .bool true] from rfl]
                  clear hnm htl hl5 r7 r8 hcl
                  go_wp2_with fail
                  go_ret2
                  exact ⟨by rw [HA.out, ← HT2.out]; rfl, rfl⟩
              · have ey2 := byte_ne (n := 93) ey
                have ey3 : ((y.toNat : Int) == 93) = false := by rw [beq_eq_false_iff_ne]; exact ey2
                have HN := hidden (HNE.out (fun h => ey h.2))
                clear ey
                go_wp2_with fail
                first | (go_round; case rel => exact ⟨k + 1, by go_num, by omega, by omega, HN.out⟩; case measure => simp [intOf]; omega) | exact ⟨⟨k + 1, by go_num, by omega, by omega, HN.out⟩, by simp [intOf]; omega⟩
            · have ex2 := byte_ne (n := 58) ex
              have ex3 : ((x.toNat : Int) == 58) = false := by rw [beq_eq_false_iff_ne]; exact ex2
              have HN := hidden (HNE.out (fun h => ex h.1))
              clear ex
              go_wp2_with fail
              first | (go_round; case rel => exact ⟨k + 1, by go_num, by omega, by omega, HN.out⟩; case measure => simp [intOf]; omega) | exact ⟨⟨k + 1, by go_num, by omega, by omega, HN.out⟩, by simp [intOf]; omega⟩
          · have hltI : ¬ (k : Int) + 1 < p.length := by omega
            have HN := hidden (show isCls (p.drop at_) = false by
              cases hc : isCls (p.drop at_) with
              | false => rfl
              | true =>
                have := isCls_len hc
                have h2 := HI.out (by omega)
                rw [hc] at h2; cases h2)
            go_wp2_with fail
            go_ret2
            exact ⟨by rw [HNO.out HN.out]; rfl, rfl⟩
      · have e3 := byte_ne (n := 58) e2
        have e4 : ((d.toNat : Int) == 58) = false := by rw [beq_eq_false_iff_ne]; exact e3
        have HN := hidden (show isCls (p.drop at_) = false by
          cases hc : isCls (p.drop at_) with
          | false => rfl
          | true => exact absurd (HC1.out.symm.trans (cls_named hc).2.2.1) e2)
        clear e2
        go_enter Try.func61, Try.ntmps61
        go_wp2_with fail
        go_ret2
        exact ⟨by rw [HNO.out HN.out]; rfl, rfl⟩
    · have e3 := byte_ne (n := 91) e1
      have e4 : ((c.toNat : Int) == 91) = false := by rw [beq_eq_false_iff_ne]; exact e3
      have HN := hidden (show isCls (p.drop at_) = false from isCls_head (by rw [HC0.out]; exact e1))
      clear e1
      go_enter Try.func61, Try.ntmps61
      go_wp2_with fail
      go_ret2
      exact ⟨by rw [HNO.out HN.out]; rfl, rfl⟩
  · have h3 : ¬ (at_ : Int) + 1 < p.length := by omega
    have h3d : decide ((at_ : Int) + 1 < p.length) = false := decide_eq_false h3
    have HN := hidden (show isCls (p.drop at_) = false by
      cases hc : isCls (p.drop at_) with
      | false => rfl
      | true => have := isCls_len hc; omega)
    go_enter Try.func61, Try.ntmps61
    go_wp2_with fail
    go_ret2
    exact ⟨by rw [HNO.out HN.out]; rfl, rfl⟩

/-- a member of a set: where it ends, from where to where it goes, its class -/
structure Mem where
  fin : Nat
  lo : Nat
  hi : Nat
  cls : Tx
def Mem.val (m : Mem) : Value := .agg #[.int .i64 m.fin, .int .i64 m.lo, .int .i64 m.hi, S m.cls]
def Mem.has (m : Mem) : Bs := fun c => if m.cls ≠ [] then ((named m.cls).getD none_) c else (decide (m.lo ≤ c) && decide (c ≤ m.hi))
/-- the member that begins at a place -/
def memAt (es : Bool) (p : Tx) (at_ : Nat) : Mem :=
  if isCls (p.drop at_) = true then ⟨at_ + 9, 0, 0, ((p.drop at_).drop 2).take 5⟩
  else if isDash ((p.drop at_).drop (byteLen es (p.drop at_))) = true then ⟨at_ + itemLen es (p.drop at_), (byteVal es (p.drop at_)).toNat, (byteVal es ((p.drop at_).drop (byteLen es (p.drop at_) + 1))).toNat, []⟩
  else ⟨at_ + itemLen es (p.drop at_), (byteVal es (p.drop at_)).toNat, (byteVal es (p.drop at_)).toNat, []⟩
theorem memAt_fin (es : Bool) (p : Tx) (at_ : Nat) : (memAt es p at_).fin = at_ + itemLen es (p.drop at_) := by
  unfold memAt itemLen
  split
  · rfl
  · split <;> rfl
theorem memAt_has (es : Bool) (p : Tx) (at_ : Nat) : (memAt es p at_).has = itemSet es (p.drop at_) := by
  unfold memAt itemSet Mem.has
  split
  · rename_i h
    have := (cls_named h).1
    have hne : ((p.drop at_).drop 2).take 5 ≠ [] := named_zero (by rw [this]; rfl)
    funext c
    rw [if_pos hne, this]
    rfl
  · split
    · funext c; rw [if_neg (fun h => h rfl)]; rfl
    · funext c; rw [if_neg (fun h => h rfl)]; rfl
theorem memAt_small (es : Bool) (p : Tx) (at_ : Nat) : (memAt es p at_).lo < 256 ∧ (memAt es p at_).hi < 256 := by
  unfold memAt
  split
  · exact ⟨Nat.zero_lt_succ _, Nat.zero_lt_succ _⟩
  · split
    · exact ⟨UInt8.toNat_lt _, UInt8.toNat_lt _⟩
    · exact ⟨UInt8.toNat_lt _, UInt8.toNat_lt _⟩

set_option maxHeartbeats 4000000 in
theorem next_any (es : Bool) (p : Tx) (at_ : Nat) (w : World) (hp : p.length ≤ 1048576) (ha : at_ < p.length) :
    Calls Try.prog 58 #[S p, .int .i64 at_, .bool es] w fun e w' => e = .returned (memAt es p at_).val ∧ Below w.heap.size w w' := by
  have hne : p.drop at_ ≠ [] := drop_ne ha
  unfold S
  go_enter Try.func58, Try.ntmps58
  go_wp2_with fail
  refine (classAt_any p at_ _ hp (by omega)).mono ?_
  rintro e w1 ⟨rfl, rfl⟩
  cases hcl : isCls (p.drop at_) with
  | true =>
    have hnm := (cls_named hcl).1
    obtain ⟨t, ht⟩ : ∃ t, t = ((p.drop at_).drop 2).take 5 := ⟨_, rfl⟩
    have htn : t ≠ [] := by rw [ht]; exact named_zero (by rw [hnm]; rfl)
    have htb : (t == []) = false := by simpa using htn
    have htb2 : (t != []) = true := by simpa using htn
    have HM := hidden (show (memAt es p at_).val = .agg #[.int .i64 (at_ + 9 : Nat), .int .i64 0, .int .i64 0, .string ⟨t.toArray⟩] by unfold memAt Mem.val; rw [if_pos hcl, ← ht]; rfl)
    rw [show atAns p at_ = .tuple #[.string ⟨t.toArray⟩, .int .i64 (at_ + 9 : Nat)] by unfold atAns; rw [if_pos hcl, ← ht]; rfl]
    clear hcl hnm ht hne
    go_wp2_with fail
    refine bodyPost_ret (v := .agg #[.int .i64 (at_ + 9), .int .i64 0, .int .i64 0, .string ⟨t.toArray⟩]) (by simp [results, Try.results58, go_sem]) rfl ?_
    exact ⟨by rw [HM.out]; rfl, (Below.refl _ w).alloc (Nat.le_refl _) _⟩
  | false =>
    rw [show atAns p at_ = .tuple #[.string ⟨#[]⟩, .int .i64 0] by unfold atAns; rw [hcl]; rfl]
    have HC := hidden hcl
    have HN := hidden hne
    clear hcl hne
    go_wp2_with fail
    refine (refOne_any es p at_ _ hp ha).mono ?_
    rintro e w2 ⟨rfl, rfl⟩
    have hb := byteLen_le es HN.out
    rw [List.length_drop] at hb
    obtain ⟨n1, hn1⟩ : ∃ n, n = at_ + byteLen es (p.drop at_) := ⟨_, rfl⟩
    obtain ⟨c1, hc1⟩ : ∃ c, c = byteVal es (p.drop at_) := ⟨_, rfl⟩
    rw [← hn1, ← hc1]
    have hn1p : n1 ≤ p.length := by omega
    have hc9 : c1.toNat < 256 := c1.toNat_lt
    have HD1 := hidden (show (p.drop at_).drop (byteLen es (p.drop at_)) = p.drop n1 by rw [List.drop_drop, hn1])
    have HN1 := hidden hn1
    have HC1 := hidden hc1
    clear hn1 hc1 hb
    by_cases h1 : n1 + 1 < p.length
    · have h1' : (n1 : Int) + 1 < p.length := by omega
      obtain ⟨c, hc⟩ : ∃ c, c = p.getD n1 0 := ⟨_, rfl⟩
      have hbc : ∀ h, (⟨p.toArray⟩ : ByteArray)[n1]'h = c := fun h => by rw [byte_at, hc]
      obtain ⟨d, hd2⟩ : ∃ d, d = p.getD (n1 + 1) 0 := ⟨_, rfl⟩
      have hbd : ∀ h, (⟨p.toArray⟩ : ByteArray)[n1 + 1]'h = d := fun h => by rw [byte_at, hd2]
      have HDD := hidden (show isDash (p.drop n1) = (c == 45 && d != 93 && !isCls (p.drop (n1 + 1))) by
        unfold isDash
        rw [drop_getD, drop_getD, List.drop_drop, hc, hd2, List.length_drop]
        simp [show 1 < p.length - n1 by omega])
      have HDG := hidden (show (p.drop (n1 + 1)).getD 0 0 = d by rw [drop_getD, hd2])
      clear hc hd2
      go_wp2_with fail
      refine (classAt_any p (n1 + 1) _ hp (by omega)).mono ?_
      rintro e w3 ⟨rfl, rfl⟩
      cases hfc : isCls (p.drop (n1 + 1)) with
      | true =>
        have hnm := (cls_named hfc).1
        obtain ⟨t, ht⟩ : ∃ t, t = ((p.drop (n1 + 1)).drop 2).take 5 := ⟨_, rfl⟩
        have htn : t ≠ [] := by rw [ht]; exact named_zero (by rw [hnm]; rfl)
        have htb : (t == []) = false := by simpa using htn
        have htb2 : (t != []) = true := by simpa using htn
        have hd91 : d = 91 := HDG.out.symm.trans (cls_named hfc).2.1
        rw [show atAns p (n1 + 1) = .tuple #[.string ⟨t.toArray⟩, .int .i64 (n1 + 1 + 9 : Nat)] by unfold atAns; rw [if_pos hfc, ← ht]; rfl]
        have hdash : isDash (p.drop n1) = false := by rw [HDD.out, hfc]; simp
        have HM := hidden (show (memAt es p at_).val = .agg #[.int .i64 n1, .int .i64 c1.toNat, .int .i64 c1.toNat, .string ⟨#[]⟩] by
          unfold memAt Mem.val itemLen
          rw [HC.out, HD1.out, hdash, ← HC1.out]
          simp only [Bool.false_eq_true, if_false]
          rw [← HN1.out]
          rfl)
        clear hfc hnm ht hdash
        subst hd91
        by_cases e1 : c = 45
        · subst e1
          go_wp2_with fail
          refine bodyPost_ret (v := .agg #[.int .i64 n1, .int .i64 c1.toNat, .int .i64 c1.toNat, .string ⟨#[]⟩]) (by simp [results, Try.results58, go_sem]) rfl ?_
          exact ⟨by rw [HM.out], (Below.refl _ w).alloc (Nat.le_refl _) _⟩
        · have e2 := byte_ne (n := 45) e1
          have e3 : ((c.toNat : Int) == 45) = false := by rw [beq_eq_false_iff_ne]; exact e2
          clear e1
          go_wp2_with fail
          refine bodyPost_ret (v := .agg #[.int .i64 n1, .int .i64 c1.toNat, .int .i64 c1.toNat, .string ⟨#[]⟩]) (by simp [results, Try.results58, go_sem]) rfl ?_
          exact ⟨by rw [HM.out], (Below.refl _ w).alloc (Nat.le_refl _) _⟩
      | false =>
        rw [show atAns p (n1 + 1) = .tuple #[.string ⟨#[]⟩, .int .i64 0] by unfold atAns; rw [hfc]; rfl]
        by_cases e1 : c = 45
        · subst e1
          by_cases e4 : d = 93
          · subst e4
            have hdash : isDash (p.drop n1) = false := by rw [HDD.out]; rfl
            have HM := hidden (show (memAt es p at_).val = .agg #[.int .i64 n1, .int .i64 c1.toNat, .int .i64 c1.toNat, .string ⟨#[]⟩] by
              unfold memAt Mem.val itemLen
              rw [HC.out, HD1.out, hdash, ← HC1.out]
              simp only [Bool.false_eq_true, if_false]
              rw [← HN1.out]
              rfl)
            clear hfc hdash
            go_wp2_with fail
            refine bodyPost_ret (v := .agg #[.int .i64 n1, .int .i64 c1.toNat, .int .i64 c1.toNat, .string ⟨#[]⟩]) (by simp [results, Try.results58, go_sem]) rfl ?_
            exact ⟨by rw [HM.out], (Below.refl _ w).alloc (Nat.le_refl _) _⟩
          · have e5 := byte_ne (n := 93) e4
            have e6 : ((d.toNat : Int) != 93) = true := by rw [bne_iff_ne]; exact e5
            have hdash : isDash (p.drop n1) = true := by rw [HDD.out, hfc]; simp [e4]
            have HD2 := hidden (show (p.drop at_).drop (byteLen es (p.drop at_) + 1) = p.drop (n1 + 1) by rw [List.drop_drop, HN1.out]; rfl)
            have HM := hidden (show (memAt es p at_).val = .agg #[.int .i64 (n1 + 1 + byteLen es (p.drop (n1 + 1)) : Nat), .int .i64 c1.toNat, .int .i64 (byteVal es (p.drop (n1 + 1))).toNat, .string ⟨#[]⟩] by
              unfold memAt Mem.val itemLen
              rw [HC.out, HD1.out, hdash, HD2.out, ← HC1.out]
              simp only [Bool.false_eq_true, if_false, if_true]
              rw [show at_ + (byteLen es (p.drop at_) + 1 + byteLen es (p.drop (n1 + 1))) = n1 + 1 + byteLen es (p.drop (n1 + 1)) by rw [HN1.out]; omega]
              rfl)
            clear hfc hdash e4
            go_wp2_with fail
            refine (refOne_any es p (n1 + 1) _ hp h1).mono ?_
            rintro e w4 ⟨rfl, rfl⟩
            have hb2 := byteLen_le es (drop_ne h1)
            rw [List.length_drop] at hb2
            obtain ⟨n2, hn2⟩ : ∃ n, n = n1 + 1 + byteLen es (p.drop (n1 + 1)) := ⟨_, rfl⟩
            obtain ⟨c2, hc2⟩ : ∃ c, c = byteVal es (p.drop (n1 + 1)) := ⟨_, rfl⟩
            have hc29 : c2.toNat < 256 := c2.toNat_lt
            rw [← hn2, ← hc2]
            rw [← hn2, ← hc2] at HM
            have hn2p : n2 ≤ p.length := by omega
            clear hn2 hc2 hb2
            go_wp2_with fail
            refine bodyPost_ret (v := .agg #[.int .i64 n2, .int .i64 c1.toNat, .int .i64 c2.toNat, .string ⟨#[]⟩]) (by simp [results, Try.results58, go_sem]) rfl ?_
            exact ⟨by rw [HM.out], (Below.refl _ w).alloc (Nat.le_refl _) _⟩
        · have e2 := byte_ne (n := 45) e1
          have e3 : ((c.toNat : Int) == 45) = false := by rw [beq_eq_false_iff_ne]; exact e2
          have hdash : isDash (p.drop n1) = false := by rw [HDD.out]; simp [e1]
          have HM := hidden (show (memAt es p at_).val = .agg #[.int .i64 n1, .int .i64 c1.toNat, .int .i64 c1.toNat, .string ⟨#[]⟩] by
            unfold memAt Mem.val itemLen
            rw [HC.out, HD1.out, hdash, ← HC1.out]
            simp only [Bool.false_eq_true, if_false]
            rw [← HN1.out]
            rfl)
          clear hfc hdash e1
          go_wp2_with fail
          refine bodyPost_ret (v := .agg #[.int .i64 n1, .int .i64 c1.toNat, .int .i64 c1.toNat, .string ⟨#[]⟩]) (by simp [results, Try.results58, go_sem]) rfl ?_
          exact ⟨by rw [HM.out], (Below.refl _ w).alloc (Nat.le_refl _) _⟩
    · have h1' : ¬ (n1 : Int) + 1 < p.length := by omega
      have h1d : decide ((n1 : Int) + 1 < p.length) = false := decide_eq_false h1'
      have hdash : isDash (p.drop n1) = false := by
        cases hh : isDash (p.drop n1) with
        | false => rfl
        | true => have := isDash_len hh; rw [List.length_drop] at this; omega
      have HM := hidden (show (memAt es p at_).val = .agg #[.int .i64 n1, .int .i64 c1.toNat, .int .i64 c1.toNat, .string ⟨#[]⟩] by
        unfold memAt Mem.val itemLen
        rw [HC.out, HD1.out, hdash, ← HC1.out]
        simp only [Bool.false_eq_true, if_false]
        rw [← HN1.out]
        rfl)
      clear hdash
      go_wp2_with fail
      refine bodyPost_ret (v := .agg #[.int .i64 n1, .int .i64 c1.toNat, .int .i64 c1.toNat, .string ⟨#[]⟩]) (by simp [results, Try.results58, go_sem]) rfl ?_
      exact ⟨by rw [HM.out], (Below.refl _ w).alloc (Nat.le_refl _) _⟩

end Go.Proofs.Ytjlihidmohokhaa
