
/-
  What the program's pass turns: a carry goes on through words without marks; conditions: where the table lies, that there are such words.
-/
import Derived.Test.YtdjdiaadflggfaaBWordW
namespace Go.Proofs.Ytdjdiaadflggfaa
open Go.RowKit Go.Proofs.Ytdjdiaadflggfaa.Ln Go.Proofs.Ytdjdiaadflggfaa.Ol

/-- the low words of some bits, the others of others -/
def mix (V H : Bs) (nx : Nat) : Bs := fun p => if p < 64 * nx then H p else V p
theorem mix_setw (V H : Bs) (j : Nat) : setw (mix V H j) j H = mix V H (j + 1) := by
  funext p
  unfold setw mix
  by_cases h : p / 64 = j
  · rw [if_pos h, if_pos (by omega)]
  · rw [if_neg h]
    by_cases h2 : p < 64 * j
    · rw [if_pos h2, if_pos (by omega)]
    · rw [if_neg h2, if_neg (by omega)]
theorem mix_word (V H : Bs) (j : Nat) : Gl.word (mix V H j) j = Gl.word V j := word_congr fun p hp => by unfold mix; rw [if_neg (by omega)]
theorem mix_zero (V H : Bs) : mix V H 0 = V := by funext p; unfold mix; rw [if_neg (by omega)]
theorem carry_none {V g H cr : Bs} (hR : Rp V g H cr) {a : Nat} (ha : cr a = false) : ∀ n, (∀ p, a ≤ p → p < a + n → g p = false) → cr (a + n) = false ∧ ∀ p, a ≤ p → p < a + n → H p = V p := by
  intro n
  induction n with
  | zero => intro _; exact ⟨ha, fun p h1 h2 => by omega⟩
  | succ n ih =>
    intro hg
    obtain ⟨i1, i2⟩ := ih (fun p h1 h2 => hg p h1 (by omega))
    have e := hR.2 (a + n)
    rw [hg (a + n) (by omega) (by omega), i1] at e
    refine ⟨by rw [← Nat.add_assoc, e.1]; simp, fun p h1 h2 => ?_⟩
    by_cases hp : p = a + n
    · rw [hp, e.2]; simp
    · exact i2 p h1 (by omega)
theorem mix_still {V g H cr : Bs} (hR : Rp V g H cr) {k n : Nat} (hk : k ≤ n) (hc : cr (64 * k) = false) (hg : ∀ p, 64 * k ≤ p → p < 64 * n → g p = false) : mix V H k = mix V H n ∧ cr (64 * n) = false := by
  obtain ⟨h1, h2⟩ := carry_none hR hc (64 * n - 64 * k) (fun p a b => hg p a (by omega))
  rw [show 64 * k + (64 * n - 64 * k) = 64 * n by omega] at h1 h2
  refine ⟨funext fun p => ?_, h1⟩
  unfold mix
  by_cases hp : p < 64 * k
  · rw [if_pos hp, if_pos (by omega)]
  · rw [if_neg hp]
    by_cases hp2 : p < 64 * n
    · rw [if_pos hp2, h2 p (by omega) hp2]
    · rw [if_neg hp2]
theorem word_zero {g : Bs} {j : Nat} (h : ∀ p, p / 64 = j → g p = false) : Gl.word g j = 0 := by rw [word_congr (g := fun _ => false) h, Gl.word_none]
theorem toNat_le1 (b : Bool) : b.toNat ≤ 1 := by cases b <;> decide

theorem bword_mix {B T : Nat} {ah wd mo : Int} {v0 v1 : Value} {at_ : Nat} {vI vT vS : Value} {V g H cr : Bs} {N : Nat} {L : List Tn} {S : List Sp} {w : World} (hR : Rp V g H cr) (j : Nat) (h : Tb B T ah wd mo v0 v1 at_ vI vT vS (mix V H j) N L S w) (hj : j < N) (mk : Nat) (hmk : Gl.word g j = mk)
    (hN : N ≤ 4194304) (hL : L.length ≤ 67108864) :
    Calls Try.prog 37 #[.pointer (some ⟨T, 0, none⟩), .int .i64 j, .int .u64 mk, .int .u64 (cr (64 * j)).toNat] w fun e w' => e = .returned (.int .u64 (cr (64 * (j + 1))).toNat) ∧ KpT B T w w' ∧ ∃ vT' X, Tb B T ah wd mo v0 v1 at_ vI vT' vS (mix V H (j + 1)) N (L ++ X) S w' ∧ X.length ≤ 1 ∧ (∀ e ∈ X, e.1 = at_ ∧ e.2.1 < N) ∧ undo X (mix V H (j + 1)) = mix V H j := by
  subst hmk
  obtain ⟨s1, s2⟩ := word_sum V g H cr j hR.2
  rw [← mix_setw]
  refine (bword_any h j hj (Gl.word g j) (cr (64 * j)).toNat (Gl.word_lt g j) (toNat_le1 _) H (cr (64 * j + 64)).toNat (by rw [mix_word]; exact s1) (by rw [mix_word]; exact s2) hN hL).mono ?_
  rintro e w' ⟨rfl, hk, vT', X, a1, a2, a3, a4⟩
  exact ⟨by rw [show 64 * (j + 1) = 64 * j + 64 by omega], hk, vT', X, a1, a2, fun e he => ⟨(a3 e he).1, by rw [(a3 e he).2]; exact hj⟩, a4⟩

/-- so far a carry has gone on -/
structure Ps (B T : Nat) (ah wd mo : Int) (v0 v1 : Value) (at_ : Nat) (vI vS : Value) (V H : Bs) (N : Nat) (L : List Tn) (S : List Sp) (w : World) (a k : Nat) (wr : World) : Prop where
  kp : KpT B T w wr
  tb : ∃ vT' X, Tb B T ah wd mo v0 v1 at_ vI vT' vS (mix V H k) N (L ++ X) S wr ∧ X.length ≤ k - a ∧ (∀ e ∈ X, e.1 = at_ ∧ e.2.1 < N) ∧ undo X (mix V H k) = mix V H a
theorem Ps.step {B T : Nat} {ah wd mo : Int} {v0 v1 : Value} {at_ : Nat} {vI vS : Value} {V H : Bs} {N : Nat} {L : List Tn} {S : List Sp} {w : World} {a k : Nat} {wr w' : World} (hak : a ≤ k) (hkp : KpT B T w wr) {X : List Tn} (hl : X.length ≤ k - a) (hx : ∀ e ∈ X, e.1 = at_ ∧ e.2.1 < N) (hu : undo X (mix V H k) = mix V H a) (kp' : KpT B T wr w')
    {vT' : Value} {Y : List Tn} (hb : Tb B T ah wd mo v0 v1 at_ vI vT' vS (mix V H (k + 1)) N ((L ++ X) ++ Y) S w') (hl2 : Y.length ≤ 1) (hy : ∀ e ∈ Y, e.1 = at_ ∧ e.2.1 < N) (hu2 : undo Y (mix V H (k + 1)) = mix V H k) : Ps B T ah wd mo v0 v1 at_ vI vS V H N L S w a (k + 1) w' := by
  rw [List.append_assoc] at hb
  refine ⟨hkp.trans kp', vT', X ++ Y, hb, by rw [List.length_append]; omega, fun e he => ?_, by rw [undo_app, hu2, hu]⟩
  rcases List.mem_append.1 he with he | he
  · exact hx e he
  · exact hy e he

set_option maxHeartbeats 1000000 in
theorem bpass_any {B T : Nat} {ah wd mo : Int} {v0 v1 : Value} {at_ : Nat} {vI vT vS : Value} {V g H cr : Bs} {N : Nat} {L : List Tn} {S : List Sp} {w : World} (hR : Rp V g H cr) (a n : Nat) (han : a ≤ n) (hn : n ≤ N) (hg : ∀ p, 64 * a ≤ p → p < 64 * n → g p = false) (h : Tb B T ah wd mo v0 v1 at_ vI vT vS (mix V H a) N L S w)
    (hN : N ≤ 4194304) (hL : L.length + (n - a) ≤ 67108864) :
    Calls Try.prog 36 #[.pointer (some ⟨T, 0, none⟩), .int .i64 a, .int .i64 n, .int .u64 (cr (64 * a)).toNat] w fun e w' => e = .returned (.int .u64 (cr (64 * n)).toNat) ∧ Ps B T ah wd mo v0 v1 at_ vI vS V H N L S w a n w' := by
  have HR := hidden hR
  have HG := hidden hg
  have HS := hidden (show Ps B T ah wd mo v0 v1 at_ vI vS V H N L S w a a w from ⟨KpT.refl, vT, [], by rw [List.append_nil]; exact h, by simp, by simp, rfl⟩)
  have HL := hidden hL
  have HA := hidden (show a ≤ 4194304 ∧ n ≤ 4194304 by omega)
  clear hR hg h hL
  go_enter Try.func36, Try.ntmps36
  go_wp2_with fail
  go_loopw [1, 3] (fun i c wr => ∃ k : Nat, k ≤ n ∧ a ≤ k ∧ i = .int .i64 k ∧ c = .int .u64 (cr (64 * k)).toNat ∧ Hid (Ps B T ah wd mo v0 v1 at_ vI vS V H N L S w a k wr)) (fun i _ _ => n - (intOf i).toNat)
  case atStart => exact ⟨a, han, Nat.le_refl _, rfl, rfl, HS.out⟩
  case round =>
    obtain ⟨k, hkn, hak, rfl, rfl, hps⟩ := hrel
    clear HS
    obtain ⟨c, hc⟩ : ∃ c, cr (64 * k) = c := ⟨_, rfl⟩
    rw [hc]
    have HC := hidden hc
    have hk2 := HA.out.2
    have hk3 : k ≤ 4194304 := by omega
    clear hc
    cases c with
    | false =>
      have HE := hidden (mix_still HR.out hkn HC.out (fun p h1 h2 => HG.out p (by omega) h2))
      rw [show (false.toNat : Nat) = 0 from rfl]
      go_wp2_with fail
      go_ret
      refine ⟨by rw [HE.out.2]; rfl, ?_⟩
      obtain ⟨kp, vT', X, b1, b2, b3, b4⟩ := hps.out
      exact ⟨kp, vT', X, by rw [← HE.out.1]; exact b1, by omega, b3, by rw [← HE.out.1]; exact b4⟩
    | true =>
      rw [show (true.toNat : Nat) = 1 from rfl]
      by_cases hlt : k < n
      · obtain ⟨kp, vT', X, b1, b2, b3, b4⟩ := hps.out
        have HB1 := hidden b1
        have HB2 := hidden b2
        have HB3 := hidden b3
        have HB4 := hidden b4
        have HK := hidden kp
        have HLL := hidden (show (L ++ X).length ≤ 67108864 by rw [List.length_append]; have := HL.out; omega)
        clear kp b1 b2 b3 b4 hps
        go_wp2_with fail
        have hcall := bword_mix HR.out k HB1.out (by omega) 0 (word_zero (fun p hp => HG.out p (by omega) (by omega))) hN HLL.out
        rw [HC.out, show (true.toNat : Nat) = 1 from rfl] at hcall
        refine hcall.mono ?_
        clear hcall
        rintro e w2 ⟨rfl, hk, vT2, Y, c1, c2, c3, c4⟩
        have HP := hidden (Ps.step hak HK.out HB2.out HB3.out HB4.out hk c1 c2 c3 c4)
        clear hk c1 c2 c3 c4
        go_wp2_with fail
        go_roundw
        case rel => exact ⟨k + 1, by omega, by omega, by go_num, rfl, HP.out⟩
        case measure => simp [intOf]; omega
      · obtain rfl : k = n := by omega
        go_wp2_with fail
        go_ret
        exact ⟨by rw [HC.out]; rfl, hps.out⟩

end Go.Proofs.Ytdjdiaadflggfaa
