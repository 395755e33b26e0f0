/-
  What nums.Read, and the program's readCount and readTimes answer at any place of a text; conditions: the text's length, and that the place is within it.
-/
import Derived.Test.YtjeloflfhofdlaaSets
import Derived.Test.YtjeloflfhofdlaaEPlain
namespace Go.Proofs.Ytjeloflfhofdlaa
open Go.RowKit Go.Proofs.Ytjeloflfhofdlaa.Gl

/-- the three answers of a reading -/
def R3 (r : Int × Int × Int) : Value := .tuple #[.int .i64 r.1, .int .i64 r.2.1, .int .i64 r.2.2]
theorem get_data (s : ByteArray) (k : Nat) (h : k < s.size) : s.data.toList[k]? = some s[k] := by
  rw [List.getElem?_eq_getElem (by rw [← Lib.size_eq]; exact h)]; rfl

set_option maxHeartbeats 400000 in
theorem digit_any (b : UInt8) (w : World) : Calls Try.prog 61 #[.int .u8 b.toNat] w fun e w' => e = .returned (.bool (dig b)) ∧ w' = w := by
  go_enter Try.func61, Try.ntmps61
  go_wp2
  all_goals
    go_ret
    refine ⟨ret_bool ?_, rfl⟩
    rw [Bool.eq_iff_iff]
    simp [dig]
    omega

theorem read_none {l : Tx} {a : Nat} (hd : ds (l.drop a) = []) : Gl.read l a = (0, 0, 2) := by
  rw [Gl.read, if_pos hd]
theorem read_big {l : Tx} {a : Nat} (hd : ds (l.drop a) ≠ []) (hb : 2147483648 < rd (ds (l.drop a))) : Gl.read l a = (0, 0, 4) := by
  rw [Gl.read, if_neg hd, if_pos hb]
theorem read_good {l : Tx} {a : Nat} (hd : ds (l.drop a) ≠ []) (hb : ¬ 2147483648 < rd (ds (l.drop a))) : Gl.read l a = ((rd (ds (l.drop a)) : Int), (a : Int) + (ds (l.drop a)).length, 0) := by
  rw [Gl.read, if_neg hd, if_neg hb]
theorem loop_step {l : List UInt8} {m j k R L : Nat} {b : UInt8} (h : ds (l.drop j) = b :: ds (l.drop (j + 1))) (hf : (ds (l.drop j)).foldl st m = R) (hl : j + (ds (l.drop j)).length = k + L) :
    (ds (l.drop (j + 1))).foldl st (st m b) = R ∧ (j + 1) + (ds (l.drop (j + 1))).length = k + L := by
  rw [h] at hf hl
  refine ⟨hf, ?_⟩
  rw [List.length_cons] at hl; omega
theorem st_small {m : Nat} {b : UInt8} (h1 : 48 ≤ b.toNat) (h : (m : Int) * 10 + ((b.toNat : Int) - 48) ≤ 2147483649) : ((st m b : Nat) : Int) = (m : Int) * 10 + ((b.toNat : Int) - 48) := by unfold st; omega
theorem st_great {m : Nat} {b : UInt8} (h1 : 48 ≤ b.toNat) (h : 2147483649 < (m : Int) * 10 + ((b.toNat : Int) - 48)) : ((st m b : Nat) : Int) = 2147483649 := by unfold st; omega

set_option maxHeartbeats 1000000 in
theorem nread_any (s : ByteArray) (k : Nat) (w : World) (hs : s.size ≤ 1048576) (hk : k ≤ s.size) :
    Calls Try.prog 55 #[.string s, .int .i64 k] w fun e w' => e = .returned (R3 (Gl.read s.data.toList k)) ∧ w' = w := by
  go_enter Try.func55, Try.ntmps55
  go_wp2
  go_loop [7, 8] (fun n i => ∃ m j : Nat, n = .int .i64 m ∧ i = .int .i64 j ∧ m ≤ 2147483649 ∧ k ≤ j ∧ j ≤ s.size ∧ Hid ((ds (s.data.toList.drop j)).foldl st m = rd (ds (s.data.toList.drop k))) ∧ Hid (j + (ds (s.data.toList.drop j)).length = k + (ds (s.data.toList.drop k)).length)) (fun _ i => s.size - (intOf i).toNat)
  case atStart => exact ⟨0, k, rfl, rfl, by omega, Nat.le_refl _, hk, rfl, rfl⟩
  case round =>
    obtain ⟨m, j, rfl, rfl, hm, hkj, hjs, hf, hl⟩ := hrel
    by_cases hgo : ∃ hlt : j < s.size, dig s[j] = true
    · obtain ⟨hlt, hd⟩ := hgo
      have HE := hidden (loop_step (ds_step (get_data s j hlt) hd) hf.out hl.out)
      have h1 := dig_lo hd
      have h2 := dig_hi hd
      have HS := hidden (@st_small m s[j] h1)
      have HG := hidden (@st_great m s[j] h1)
      have HL := hidden (st_le m s[j])
      clear hf hl
      go_wp2_with (go_at_call 61; refine (digit_any _ _).mono ?_; rintro e w' ⟨rfl, rfl⟩)
      · rename_i h
        have HE' := hidden (HG.out h)
        go_round
        case rel => exact ⟨st m s[j], HE'.out.symm, j + 1, by omega, HL.out, by omega, by omega, HE.out.1, HE.out.2⟩
        case measure => simp [intOf]; omega
      · rename_i h
        have HE' := hidden (HS.out h)
        go_round
        case rel => exact ⟨st m s[j], HE'.out.symm, j + 1, by omega, HL.out, by omega, by omega, HE.out.1, HE.out.2⟩
        case measure => simp [intOf]; omega
    · have hds : ds (s.data.toList.drop j) = [] := by
        by_cases hlt : j < s.size
        · exact ds_stop (get_data s j hlt) (by cases h : dig s[j]; · rfl
                                               · exact absurd ⟨hlt, h⟩ hgo)
        · exact ds_end (by rw [← Lib.size_eq]; omega)
      have hf' : m = rd (ds (s.data.toList.drop k)) := by have := hf.out; rw [hds] at this; exact this
      have hl' : j = k + (ds (s.data.toList.drop k)).length := by have := hl.out; rw [hds] at this; exact this
      have HF := hidden hf'
      have HL := hidden hl'
      have hgo' : ∀ hlt : j < s.size, dig s[j] = false := fun hlt => by
        cases h : dig s[j]
        · rfl
        · exact absurd ⟨hlt, h⟩ hgo
      clear hf hl hf' hl' hds hgo
      have hfin : (j : Int) = k → Gl.read s.data.toList k = (0, 0, 2) := fun h => read_none (List.eq_nil_of_length_eq_zero (by have := HL.out; omega))
      have hfin2 : ¬ (j : Int) = k → 2147483648 < m → Gl.read s.data.toList k = (0, 0, 4) := fun h hb => read_big (fun e => h (by have := HL.out; rw [e] at this; simp at this; omega)) (by rw [← HF.out]; exact hb)
      have hfin3 : ¬ (j : Int) = k → ¬ 2147483648 < m → Gl.read s.data.toList k = ((m : Int), (j : Int), 0) := fun h hb => by
        rw [read_good (fun e => h (by have := HL.out; rw [e] at this; simp at this; omega)) (by rw [← HF.out]; exact hb), ← HF.out]
        have := HL.out
        rw [this]; simp
      have H1 := hidden hfin
      have H2 := hidden hfin2
      have H3 := hidden hfin3
      clear hfin hfin2 hfin3
      by_cases hlt : j < s.size
      · have hd := hgo' hlt
        clear hgo'
        by_cases hjk : (j : Int) = k
        · have hjb : ((j : Int) == (k : Int)) = true := by rw [beq_iff_eq]; exact hjk
          have HR := hidden (H1.out hjk)
          clear H1 H2 H3 hjk
          go_wp2_with (go_at_call 61; refine (digit_any _ _).mono ?_; rintro e w' ⟨rfl, rfl⟩)
          go_ret3
          exact ⟨by rw [HR.out]; rfl, rfl⟩
        · have hjb : ((j : Int) == (k : Int)) = false := by rw [beq_eq_false_iff_ne]; exact hjk
          by_cases hb : 2147483648 < m
          · have HR := hidden (H2.out hjk hb)
            clear H1 H2 H3 hjk
            go_wp2_with (go_at_call 61; refine (digit_any _ _).mono ?_; rintro e w' ⟨rfl, rfl⟩)
            go_ret3
            exact ⟨by rw [HR.out]; rfl, rfl⟩
          · have HR := hidden (H3.out hjk hb)
            clear H1 H2 H3 hjk
            go_wp2_with (go_at_call 61; refine (digit_any _ _).mono ?_; rintro e w' ⟨rfl, rfl⟩)
            go_ret3
            exact ⟨by rw [HR.out]; rfl, rfl⟩
      · clear hgo'
        by_cases hjk : (j : Int) = k
        · have hjb : ((j : Int) == (k : Int)) = true := by rw [beq_iff_eq]; exact hjk
          have HR := hidden (H1.out hjk)
          clear H1 H2 H3 hjk
          go_wp2
          go_ret3
          exact ⟨by rw [HR.out]; rfl, rfl⟩
        · have hjb : ((j : Int) == (k : Int)) = false := by rw [beq_eq_false_iff_ne]; exact hjk
          by_cases hb : 2147483648 < m
          · have HR := hidden (H2.out hjk hb)
            clear H1 H2 H3 hjk
            go_wp2
            go_ret3
            exact ⟨by rw [HR.out]; rfl, rfl⟩
          · have HR := hidden (H3.out hjk hb)
            clear H1 H2 H3 hjk
            go_wp2
            go_ret3
            exact ⟨by rw [HR.out]; rfl, rfl⟩

theorem nread_list (p : Tx) (k : Nat) (w : World) (hp : p.length ≤ 1048576) (hk : k ≤ p.length) :
    Calls Try.prog 55 #[S p, .int .i64 k] w fun e w' => e = .returned (R3 (Gl.read p k)) ∧ w' = w := by
  have hz : (⟨p.toArray⟩ : ByteArray).size = p.length := by show p.toArray.size = _; simp
  have := nread_any ⟨p.toArray⟩ k w (by rw [hz]; exact hp) (by rw [hz]; exact hk)
  simpa [S] using this

/-- readCount's answer as a value -/
def countAns (k : Nat) : Option (Nat × Nat) → Value
  | some r => .tuple #[.int .i64 r.1, .int .i64 (k + r.2 : Nat), .bool true]
  | none => .tuple #[.int .i64 0, .int .i64 0, .bool false]

set_option maxHeartbeats 1000000 in
theorem count_any (p : Tx) (k : Nat) (w : World) (hp : p.length ≤ 1048576) (hk : k ≤ p.length) :
    Calls Try.prog 46 #[S p, .int .i64 k] w fun e w' => e = .returned (countAns k (countR (p.drop k))) ∧ w' = w := by
  unfold S
  have hds := ds_le (p.drop k)
  rw [List.length_drop] at hds
  obtain ⟨n, hn⟩ : ∃ n, n = (ds (p.drop k)).length := ⟨_, rfl⟩
  obtain ⟨v, hv⟩ : ∃ v, v = rd (ds (p.drop k)) := ⟨_, rfl⟩
  have hvl : v ≤ 2147483649 := by rw [hv]; exact rd_le _
  rw [← hn] at hds
  have h0 : ds (p.drop k) = [] ↔ n = 0 := by rw [hn]; exact List.length_eq_zero_iff.symm
  by_cases hnil : n = 0
  · have HC := hidden (show countR (p.drop k) = none by unfold countR; rw [if_pos (Or.inl (h0.2 hnil))])
    have HR := hidden (read_none (l := p) (a := k) (h0.2 hnil))
    clear hn hv h0
    go_enter Try.func46, Try.ntmps46
    go_wp2_with (go_at_call 55; refine (nread_list p k _ hp hk).mono ?_; rintro e w' ⟨rfl, rfl⟩; rw [HR.out]; unfold R3)
    go_ret3
    exact ⟨by rw [HC.out]; rfl, rfl⟩
  · have hne : ds (p.drop k) ≠ [] := fun e => hnil (h0.1 e)
    by_cases hbig : 2147483648 < v
    · have HC := hidden (show countR (p.drop k) = none by unfold countR; rw [if_pos (Or.inr (Or.inr (by omega)))])
      have HR := hidden (read_big (l := p) (a := k) hne (by omega))
      clear hn hv h0 hne
      go_enter Try.func46, Try.ntmps46
      go_wp2_with (go_at_call 55; refine (nread_list p k _ hp hk).mono ?_; rintro e w' ⟨rfl, rfl⟩; rw [HR.out]; unfold R3)
      go_ret3
      exact ⟨by rw [HC.out]; rfl, rfl⟩
    · have HR := hidden (read_good (l := p) (a := k) hne (by omega))
      rw [← hv, ← hn] at HR
      by_cases h3 : 3 < n
      · have HC := hidden (show countR (p.drop k) = none by unfold countR; rw [if_pos (Or.inr (Or.inl (by omega)))])
        have h4 : (3 : Int) < (k : Int) + n - k := by omega
        clear hn hv h0 hne
        go_enter Try.func46, Try.ntmps46
        go_wp2_with (go_at_call 55; refine (nread_list p k _ hp hk).mono ?_; rintro e w' ⟨rfl, rfl⟩; rw [HR.out]; unfold R3)
        go_ret3
        exact ⟨by rw [HC.out]; rfl, rfl⟩
      · have h4 : ¬ (3 : Int) < (k : Int) + n - k := by omega
        by_cases h200 : 200 < v
        · have HC := hidden (show countR (p.drop k) = none by unfold countR; rw [if_pos (Or.inr (Or.inr (by omega)))])
          clear hn hv h0 hne
          go_enter Try.func46, Try.ntmps46
          go_wp2_with (go_at_call 55; refine (nread_list p k _ hp hk).mono ?_; rintro e w' ⟨rfl, rfl⟩; rw [HR.out]; unfold R3)
          go_ret3
          exact ⟨by rw [HC.out]; rfl, rfl⟩
        · have HC := hidden (show countR (p.drop k) = some (v, n) by
            unfold countR
            rw [if_neg (fun h => by rcases h with h | h | h; exact hne h; omega; omega), ← hv, ← hn])
          clear hn hv h0 hne
          go_enter Try.func46, Try.ntmps46
          go_wp2_with (go_at_call 55; refine (nread_list p k _ hp hk).mono ?_; rintro e w' ⟨rfl, rfl⟩; rw [HR.out]; unfold R3)
          go_ret3
          exact ⟨by rw [HC.out]; rfl, rfl⟩

/-- readTimes' answer as a value -/
def timesAns (k : Nat) : Option (Nat × Int × Nat) → Value
  | some r => .tuple #[.int .i64 r.1, .int .i64 r.2.1, .int .i64 (k + r.2.2 : Nat), .bool true]
  | none => .tuple #[.int .i64 0, .int .i64 0, .int .i64 0, .bool false]

theorem getD_byte (p : Tx) (k : Nat) : (p.drop k).getD 0 0 = p.getD k 0 := by rw [drop_getD]; rfl
theorem getD_out {p : Tx} {k : Nat} (h : p.length ≤ k) : p.getD k 0 = 0 := by
  rw [List.getD_eq_getElem?_getD, List.getElem?_eq_none h]; rfl

set_option maxHeartbeats 4000000 in
theorem times_any (p : Tx) (k : Nat) (w : World) (hp : p.length ≤ 1048576) (hk : k ≤ p.length) :
    Calls Try.prog 38 #[S p, .int .i64 k] w fun e w' => e = .returned (timesAns k (timesR (p.drop k))) ∧ w' = w := by
  unfold S
  cases hc : countR (p.drop k) with
  | none =>
    have HT := hidden (show timesR (p.drop k) = none by unfold timesR; rw [hc])
    have HC := hidden hc
    clear hc
    go_enter Try.func38, Try.ntmps38
    go_wp2_with fail
    refine (count_any p k _ hp hk).mono ?_
    rintro e w' ⟨rfl, rfl⟩
    rw [HC.out]
    unfold countAns
    go_wp2_with fail
    refine bodyPost_ret (v := .tuple #[.int .i64 0, .int .i64 0, .int .i64 0, .bool false]) (by simp [results, Try.results38, go_sem]) rfl ?_
    exact ⟨by rw [HT.out]; rfl, rfl⟩
  | some q =>
    obtain ⟨lo, m⟩ := q
    have hm := countR_le hc
    rw [List.length_drop] at hm
    have hm2 : m ≤ p.length - k := hm.2
    obtain ⟨k1, hk1⟩ : ∃ k1, k1 = k + m := ⟨_, rfl⟩
    have hk1p : k1 ≤ p.length := by omega
    have HC := hidden (show countAns k (countR (p.drop k)) = .tuple #[.int .i64 lo, .int .i64 k1, .bool true] by rw [hc, hk1]; rfl)
    obtain ⟨c, hcc⟩ : ∃ c, c = p.getD k1 0 := ⟨_, rfl⟩
    have hd1 : ((p.drop k).drop m).getD 0 0 = c := by rw [List.drop_drop, ← hk1, getD_byte, hcc]
    have hb : ∀ h, (⟨p.toArray⟩ : ByteArray)[k1]'h = c := fun h => by rw [byte_at, hcc]
    by_cases h44 : c = 44
    · subst h44
      have hlt : k1 < p.length := by
        by_cases h : k1 < p.length
        · exact h
        · have := getD_out (p := p) (k := k1) (by omega)
          rw [this] at hcc; cases hcc
      obtain ⟨k2, hk2⟩ : ∃ k2, k2 = k1 + 1 := ⟨_, rfl⟩
      have hk2p : k2 ≤ p.length := by omega
      have hdd : (p.drop k).drop (m + 1) = p.drop k2 := by rw [List.drop_drop, hk2, hk1]; rfl
      obtain ⟨d, hd⟩ : ∃ d, d = p.getD k2 0 := ⟨_, rfl⟩
      have hb2 : ∀ h, (⟨p.toArray⟩ : ByteArray)[k2]'h = d := fun h => by rw [byte_at, hd]
      have hd2 : (p.drop k2).getD 0 0 = d := by rw [getD_byte, hd]
      by_cases h125 : d = 125
      · subst h125
        have hlt2 : k2 < p.length := by
          by_cases h : k2 < p.length
          · exact h
          · have := getD_out (p := p) (k := k2) (by omega)
            rw [this] at hd; cases hd
        have HT := hidden (show timesAns k (timesR (p.drop k)) = .tuple #[.int .i64 lo, .int .i64 (-1), .int .i64 ((k2 : Int) + 1), .bool true] by
          unfold timesR
          rw [hc]
          simp only []
          rw [if_pos hd1, hdd, if_pos hd2]
          unfold timesAns
          simp only []
          rw [show k + (m + 2) = k2 + 1 by omega]
          rfl)
        have HK := hidden hk2
        have hkk : (k1 : Int) + 1 = k2 := by omega
        clear hc hcc hd1 hd hd2 hdd hm hm2 hk1 hk2
        go_enter Try.func38, Try.ntmps38
        go_wp2_with fail
        refine (count_any p k _ hp hk).mono ?_
        rintro e w' ⟨rfl, rfl⟩
        rw [HC.out]
        go_wp2_with fail
        refine bodyPost_ret (v := .tuple #[.int .i64 lo, .int .i64 (-1), .int .i64 ((k2 : Int) + 1), .bool true]) (by simp [results, Try.results38, go_sem]) rfl ?_
        exact ⟨by rw [HT.out], rfl⟩
      · have e125 := byte_ne (n := 125) h125
        have e125b : ((d.toNat : Int) != 125) = true := by rw [bne_iff_ne]; exact e125
        have hkk : (k1 : Int) + 1 = k2 := by omega
        by_cases hlt2 : k2 < p.length
        · cases hc2 : countR (p.drop k2) with
          | none =>
            have HT := hidden (show timesR (p.drop k) = none by
              unfold timesR
              rw [hc]
              simp only []
              rw [if_pos hd1, hdd, if_neg (by rw [hd2]; exact h125), hc2])
            have HC2 := hidden (show countAns k2 (countR (p.drop k2)) = .tuple #[.int .i64 0, .int .i64 0, .bool false] by rw [hc2]; rfl)
            clear hc hcc hd1 hd hd2 hdd hm hm2 hk1 hk2 hc2 h125
            go_enter Try.func38, Try.ntmps38
            go_wp2_with fail
            refine (count_any p k _ hp hk).mono ?_
            rintro e w' ⟨rfl, rfl⟩
            rw [HC.out]
            go_wp2_with fail
            refine (count_any p k2 _ hp hk2p).mono ?_
            rintro e w' ⟨rfl, rfl⟩
            rw [HC2.out]
            go_wp2_with fail
            refine bodyPost_ret (v := .tuple #[.int .i64 0, .int .i64 0, .int .i64 0, .bool false]) (by simp [results, Try.results38, go_sem]) rfl ?_
            exact ⟨by rw [HT.out]; rfl, rfl⟩
          | some q2 =>
            obtain ⟨hi, m2⟩ := q2
            have hmm := countR_le hc2
            rw [List.length_drop] at hmm
            have hmm2 : m2 ≤ p.length - k2 := hmm.2
            obtain ⟨k3, hk3⟩ : ∃ k3, k3 = k2 + m2 := ⟨_, rfl⟩
            have hk3p : k3 ≤ p.length := by omega
            have HC2 := hidden (show countAns k2 (countR (p.drop k2)) = .tuple #[.int .i64 hi, .int .i64 k3, .bool true] by rw [hc2, hk3]; rfl)
            obtain ⟨x, hx⟩ : ∃ x, x = p.getD k3 0 := ⟨_, rfl⟩
            have hb3 : ∀ h, (⟨p.toArray⟩ : ByteArray)[k3]'h = x := fun h => by rw [byte_at, hx]
            have hd3 : ((p.drop k).drop (m + 1 + m2)).getD 0 0 = x := by
              rw [List.drop_drop, show k + (m + 1 + m2) = k3 by omega, getD_byte, hx]
            have hT : timesR (p.drop k) = if lo ≤ hi ∧ x = 125 then some (lo, (hi : Int), m + 1 + m2 + 1) else none := by
              unfold timesR
              rw [hc]
              simp only []
              rw [if_pos hd1, hdd, if_neg (by rw [hd2]; exact h125), hc2]
              simp only []
              rw [hd3]
            by_cases hle : lo ≤ hi
            · have hle2 : ¬ (hi : Int) < lo := by omega
              by_cases hx125 : x = 125
              · subst hx125
                have hlt3 : ¬ (k3 : Int) = p.length := by
                  intro h
                  have := getD_out (p := p) (k := k3) (by omega)
                  rw [this] at hx; cases hx
                have hlt4 : k3 < p.length := by omega
                have hlt5 : ((k3 : Int) == (p.length : Int)) = false := by rw [beq_eq_false_iff_ne]; exact hlt3
                have HT := hidden (show timesAns k (timesR (p.drop k)) = .tuple #[.int .i64 lo, .int .i64 hi, .int .i64 ((k3 : Int) + 1), .bool true] by
                  rw [hT, if_pos ⟨hle, rfl⟩]
                  unfold timesAns
                  simp only []
                  rw [show k + (m + 1 + m2 + 1) = k3 + 1 by omega]
                  rfl)
                clear hc hcc hd1 hd hd2 hdd hm hm2 hk1 hk2 hc2 h125 hmm hmm2 hk3 hx hd3 hT
                go_enter Try.func38, Try.ntmps38
                go_wp2_with fail
                refine (count_any p k _ hp hk).mono ?_
                rintro e w' ⟨rfl, rfl⟩
                rw [HC.out]
                go_wp2_with fail
                refine (count_any p k2 _ hp hk2p).mono ?_
                rintro e w' ⟨rfl, rfl⟩
                rw [HC2.out]
                go_wp2_with fail
                refine bodyPost_ret (v := .tuple #[.int .i64 lo, .int .i64 hi, .int .i64 ((k3 : Int) + 1), .bool true]) (by simp [results, Try.results38, go_sem]) rfl ?_
                exact ⟨by rw [HT.out], rfl⟩
              · have HT := hidden (show timesR (p.drop k) = none by rw [hT, if_neg (fun h => hx125 h.2)])
                have ex := byte_ne (n := 125) hx125
                have exb : ((x.toNat : Int) != 125) = true := by rw [bne_iff_ne]; exact ex
                clear hc hcc hd1 hd hd2 hdd hm hm2 hk1 hk2 hc2 h125 hmm hmm2 hk3 hx hd3 hT hx125
                by_cases h3 : (k3 : Int) = p.length
                · have hlt5 : ((k3 : Int) == (p.length : Int)) = true := by rw [beq_iff_eq]; exact h3
                  go_enter Try.func38, Try.ntmps38
                  go_wp2_with fail
                  refine (count_any p k _ hp hk).mono ?_
                  rintro e w' ⟨rfl, rfl⟩
                  rw [HC.out]
                  go_wp2_with fail
                  refine (count_any p k2 _ hp hk2p).mono ?_
                  rintro e w' ⟨rfl, rfl⟩
                  rw [HC2.out]
                  go_wp2_with fail
                  refine bodyPost_ret (v := .tuple #[.int .i64 0, .int .i64 0, .int .i64 0, .bool false]) (by simp [results, Try.results38, go_sem]) rfl ?_
                  exact ⟨by rw [HT.out]; rfl, rfl⟩
                · have hlt5 : ((k3 : Int) == (p.length : Int)) = false := by rw [beq_eq_false_iff_ne]; exact h3
                  have hlt4 : k3 < p.length := by omega
                  go_enter Try.func38, Try.ntmps38
                  go_wp2_with fail
                  refine (count_any p k _ hp hk).mono ?_
                  rintro e w' ⟨rfl, rfl⟩
                  rw [HC.out]
                  go_wp2_with fail
                  refine (count_any p k2 _ hp hk2p).mono ?_
                  rintro e w' ⟨rfl, rfl⟩
                  rw [HC2.out]
                  go_wp2_with fail
                  refine bodyPost_ret (v := .tuple #[.int .i64 0, .int .i64 0, .int .i64 0, .bool false]) (by simp [results, Try.results38, go_sem]) rfl ?_
                  exact ⟨by rw [HT.out]; rfl, rfl⟩
            · have hle2 : (hi : Int) < lo := by omega
              have HT := hidden (show timesR (p.drop k) = none by rw [hT, if_neg (fun h => hle h.1)])
              clear hc hcc hd1 hd hd2 hdd hm hm2 hk1 hk2 hc2 h125 hmm hmm2 hk3 hx hd3 hT hle
              go_enter Try.func38, Try.ntmps38
              go_wp2_with fail
              refine (count_any p k _ hp hk).mono ?_
              rintro e w' ⟨rfl, rfl⟩
              rw [HC.out]
              go_wp2_with fail
              refine (count_any p k2 _ hp hk2p).mono ?_
              rintro e w' ⟨rfl, rfl⟩
              rw [HC2.out]
              go_wp2_with fail
              refine bodyPost_ret (v := .tuple #[.int .i64 0, .int .i64 0, .int .i64 0, .bool false]) (by simp [results, Try.results38, go_sem]) rfl ?_
              exact ⟨by rw [HT.out]; rfl, rfl⟩
        · have HT := hidden (show timesR (p.drop k) = none by
            unfold timesR
            rw [hc]
            simp only []
            rw [if_pos hd1, hdd, if_neg (by rw [hd2]; exact h125), List.drop_eq_nil_of_le (by omega), show countR [] = none from rfl])
          have hlt5 : ((k2 : Int) == (p.length : Int)) = true := by rw [beq_iff_eq]; omega
          clear hc hcc hd1 hd hd2 hdd hm hm2 hk1 hk2 h125
          go_enter Try.func38, Try.ntmps38
          go_wp2_with fail
          refine (count_any p k _ hp hk).mono ?_
          rintro e w' ⟨rfl, rfl⟩
          rw [HC.out]
          go_wp2_with fail
          refine bodyPost_ret (v := .tuple #[.int .i64 0, .int .i64 0, .int .i64 0, .bool false]) (by simp [results, Try.results38, go_sem]) rfl ?_
          exact ⟨by rw [HT.out]; rfl, rfl⟩
    · have e44 := byte_ne (n := 44) h44
      have hT : timesR (p.drop k) = if c = 125 then some (lo, (lo : Int), m + 1) else none := by
        unfold timesR
        rw [hc]
        simp only []
        rw [if_neg (by rw [hd1]; exact h44), hd1]
      by_cases h1 : (k1 : Int) = p.length
      · have hlt5 : ((k1 : Int) == (p.length : Int)) = true := by rw [beq_iff_eq]; exact h1
        have HT := hidden (show timesR (p.drop k) = none by
          rw [hT, if_neg (fun h => by
            have := getD_out (p := p) (k := k1) (by omega)
            rw [this] at hcc; rw [hcc] at h; cases h)])
        have hlt : ¬ k1 < p.length := by omega
        clear hc hcc hd1 hm hm2 hk1 h44 hT
        go_enter Try.func38, Try.ntmps38
        go_wp2_with fail
        refine (count_any p k _ hp hk).mono ?_
        rintro e w' ⟨rfl, rfl⟩
        rw [HC.out]
        go_wp2_with fail
        refine bodyPost_ret (v := .tuple #[.int .i64 0, .int .i64 0, .int .i64 0, .bool false]) (by simp [results, Try.results38, go_sem]) rfl ?_
        exact ⟨by rw [HT.out]; rfl, rfl⟩
      · have hlt5 : ((k1 : Int) == (p.length : Int)) = false := by rw [beq_eq_false_iff_ne]; exact h1
        have hlt : k1 < p.length := by omega
        by_cases h125 : c = 125
        · subst h125
          have HT := hidden (show timesAns k (timesR (p.drop k)) = .tuple #[.int .i64 lo, .int .i64 lo, .int .i64 ((k1 : Int) + 1), .bool true] by
            rw [hT, if_pos rfl]
            unfold timesAns
            simp only []
            rw [show k + (m + 1) = k1 + 1 by omega]
            rfl)
          clear hc hcc hd1 hm hm2 hk1 h44 hT
          go_enter Try.func38, Try.ntmps38
          go_wp2_with fail
          refine (count_any p k _ hp hk).mono ?_
          rintro e w' ⟨rfl, rfl⟩
          rw [HC.out]
          go_wp2_with fail
          refine bodyPost_ret (v := .tuple #[.int .i64 lo, .int .i64 lo, .int .i64 ((k1 : Int) + 1), .bool true]) (by simp [results, Try.results38, go_sem]) rfl ?_
          exact ⟨by rw [HT.out], rfl⟩
        · have HT := hidden (show timesR (p.drop k) = none by rw [hT, if_neg h125])
          have ex := byte_ne (n := 125) h125
          have exb : ((c.toNat : Int) != 125) = true := by rw [bne_iff_ne]; exact ex
          clear hc hcc hd1 hm hm2 hk1 h44 hT h125
          go_enter Try.func38, Try.ntmps38
          go_wp2_with fail
          refine (count_any p k _ hp hk).mono ?_
          rintro e w' ⟨rfl, rfl⟩
          rw [HC.out]
          go_wp2_with fail
          refine bodyPost_ret (v := .tuple #[.int .i64 0, .int .i64 0, .int .i64 0, .bool false]) (by simp [results, Try.results38, go_sem]) rfl ?_
          exact ⟨by rw [HT.out]; rfl, rfl⟩

end Go.Proofs.Ytjeloflfhofdlaa
