/-
  What the program's reader of one sign of a set answers at any place: the sign, or the escaped one; condition: the text's length.
-/
import Derived.Test.YthjhihpbilaifaaSets
namespace Go.Proofs.Ythjhihpbilaifaa
open Go.RowKit Go.Proofs.Ythjhihpbilaifaa.Gl

/-- may a sign be escaped? -/
def eOne : Bool := true

set_option maxHeartbeats 2000000 in
theorem one_any (p : Tx) (at_ : Nat) (w : World) (hp : p.length ≤ 1048576) (ha : at_ < p.length) :
    Calls Try.prog 20 #[S p, .int .i64 at_] w fun e w' => e = .returned (.tuple #[.int .u8 (byteVal eOne (p.drop at_)).toNat, .int .i64 (at_ + byteLen eOne (p.drop at_) : Nat)]) ∧ w' = w := by
  obtain ⟨c, hc⟩ : ∃ c, c = p.getD at_ 0 := ⟨_, rfl⟩
  have hb : ∀ h, (⟨p.toArray⟩ : ByteArray)[at_]'h = c := fun h => by rw [byte_at, hc]
  have hd : (p.drop at_).length = p.length - at_ := List.length_drop
  have H0 := hidden (show (p.drop at_).getD 0 0 = c by rw [drop_getD, hc]; rfl)
  unfold S
  by_cases h1 : c = 92
  · subst h1
    by_cases h2 : at_ + 1 < p.length
    · have h3 : (at_ : Int) + 1 < p.length := by omega
      have he : esc eOne (p.drop at_) = true := by unfold esc eOne; rw [H0.out, hd]; simp; omega
      have HV := hidden (show byteVal eOne (p.drop at_) = p.getD (at_ + 1) 0 by unfold byteVal; rw [if_pos he, drop_getD])
      have HL := hidden (show byteLen eOne (p.drop at_) = 2 by unfold byteLen; rw [if_pos he])
      obtain ⟨d, hd2⟩ : ∃ d, d = p.getD (at_ + 1) 0 := ⟨_, rfl⟩
      have hb2 : ∀ h, (⟨p.toArray⟩ : ByteArray)[at_ + 1]'h = d := fun h => by rw [byte_at, hd2]
      have HD := hidden hd2
      clear hc he hd2
      go_enter Try.func20, Try.ntmps20
      go_wp2
      go_ret2
      exact ⟨by rw [HV.out, HL.out, ← HD.out]; rfl, rfl⟩
    · have h3 : ¬ (at_ : Int) + 1 < p.length := by omega
      have he : ¬ esc eOne (p.drop at_) = true := by unfold esc eOne; rw [hd]; simp; omega
      have HV := hidden (show byteVal eOne (p.drop at_) = 92 by unfold byteVal; rw [if_neg he, H0.out])
      have HL := hidden (show byteLen eOne (p.drop at_) = 1 by unfold byteLen; rw [if_neg he])
      clear hc he
      go_enter Try.func20, Try.ntmps20
      go_wp2
      go_ret2
      exact ⟨by rw [HV.out, HL.out]; rfl, rfl⟩
  · have h2 := byte_ne (n := 92) h1
    have he : ¬ esc eOne (p.drop at_) = true := by unfold esc eOne; rw [H0.out]; simp [h1]
    have HV := hidden (show byteVal eOne (p.drop at_) = c by unfold byteVal; rw [if_neg he, H0.out])
    have HL := hidden (show byteLen eOne (p.drop at_) = 1 by unfold byteLen; rw [if_neg he])
    clear hc he
    go_enter Try.func20, Try.ntmps20
    go_wp2
    go_ret2
    exact ⟨by rw [HV.out, HL.out]; rfl, rfl⟩

end Go.Proofs.Ythjhihpbilaifaa
