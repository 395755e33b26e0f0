/-
  What the program's reader of one sign of a set answers at any place: the sign itself; condition: the text's length.
-/
import Derived.Test.YtjeloflfhofdlaaSets
namespace Go.Proofs.Ytjeloflfhofdlaa
open Go.RowKit Go.Proofs.Ytjeloflfhofdlaa.Gl

/-- may a sign be escaped? -/
def eOne : Bool := false

set_option maxHeartbeats 2000000 in
theorem one_any (p : Tx) (at_ : Nat) (w : World) (hp : p.length ≤ 1048576) (ha : at_ < p.length) :
    Calls Try.prog 52 #[S p, .int .i64 at_] w fun e w' => e = .returned (.tuple #[.int .u8 (byteVal eOne (p.drop at_)).toNat, .int .i64 (at_ + byteLen eOne (p.drop at_) : Nat)]) ∧ w' = w := by
  obtain ⟨c, hc⟩ : ∃ c, c = p.getD at_ 0 := ⟨_, rfl⟩
  have hb : ∀ h, (⟨p.toArray⟩ : ByteArray)[at_]'h = c := fun h => by rw [byte_at, hc]
  have HV := hidden (show byteVal eOne (p.drop at_) = c by unfold byteVal esc eOne; rw [Bool.false_and, Bool.false_and, if_neg (by decide), drop_getD, hc]; rfl)
  have HL := hidden (show byteLen eOne (p.drop at_) = 1 by unfold byteLen esc eOne; rw [Bool.false_and, Bool.false_and, if_neg (by decide)])
  unfold S
  clear hc
  go_enter Try.func52, Try.ntmps52
  go_wp2
  go_ret2
  exact ⟨by rw [HV.out, HL.out]; rfl, rfl⟩

end Go.Proofs.Ytjeloflfhofdlaa
