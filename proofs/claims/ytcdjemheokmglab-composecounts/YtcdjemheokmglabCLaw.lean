
/-
  What the law's own alive answers, and what is kept of two lists of steps, one behind the other; no condition but those that each states.
-/
import Derived.Test.YtcdjemheokmglabCComp
import Derived.Test.YtcdjemheokmglabTFact
import Derived.Test.YtcdjemheokmglabFFlip
import Derived.Test.YtcdjemheokmglabALaw
import Derived.Test.YtcdjemheokmglabOLaw
import Derived.Test.YtcdjemheokmglabOFacts
namespace Go.Proofs.Ytcdjemheokmglab
open Go.RowKit Go.Proofs.Ytcdjemheokmglab.Ln Go.Proofs.Ytcdjemheokmglab.Ol

theorem thn_fit {p q l : List Oq} (hp : Fit p) (hq : Fit q) (h : thn p q = some l) : Fit l := by
  obtain ⟨_, _, _, _, r, hw, hl, _⟩ := thn_some h
  rw [hl]
  exact nrm_fit (byO_fit hp hq hw)
theorem thn_right {p q l : List Oq} (h : thn p q = some l) : right l = true := by
  obtain ⟨_, _, rl, _⟩ := thn_some h
  exact rl
theorem thn_len {p q l : List Oq} (h : thn p q = some l) : l.length ≤ 4294967296 := right_len (thn_right h)
theorem thnD_fit {p q : List Oq} (hp : Fit p) (hq : Fit q) : Fit ((thn p q).getD []) := by
  cases h : thn p q with
  | none => intro x hx; cases hx
  | some l => exact thn_fit hp hq h
theorem thnD_len (p q : List Oq) : ((thn p q).getD []).length ≤ 4294967296 := by
  cases h : thn p q with
  | none => simp
  | some l => exact thn_len h
theorem rst_len (l : List Oq) : (rst l).length ≤ l.length := by
  unfold rst
  rw [List.length_reverse]
  have h1 := (List.dropWhile_sublist (fun x : Oq => x.1 == 1) (l := l.reverse)).length_le
  rwa [List.length_reverse] at h1
theorem flN_lenC (l : List Oq) : (flN l).length ≤ l.length := by
  unfold flN
  split
  · have := nfo_len (flp l)
    rw [flp_len] at this
    unfold nrm; rw [List.length_append]; exact this
  · simp
theorem flN_fitC {l : List Oq} (h : Fit l) : Fit (flN l) := by
  unfold flN
  split
  · exact nrm_fit (fit_flp h)
  · intro y hy; cases hy
theorem fitT_nil : FitT [] := fun x hx => by cases hx
theorem dooD_fit {l : List Oq} {old : List Tx} (hf : Fit l) (ho : FitT old) : FitT ((doo l old).getD []) := by
  cases h : doo l old with
  | none => exact fitT_nil
  | some a => exact doo_fit hf ho h
theorem dooD_len (l : List Oq) (old : List Tx) : ((doo l old).getD []).length ≤ l.length + old.length := by
  cases h : doo l old with
  | none => simp
  | some a => exact doo_len h
def I11 : List Oq := [(4, 0, [97, 10])]
def D11 : List Oq := [(3, 0, [97, 10])]
def S11 : List Oq := [(1, 2, [])]

set_option maxHeartbeats 4000000 in
theorem alive11_any (w : World) : Calls Try.prog 4 #[] w fun e w' => e = .returned (.bool true) ∧ Below w.heap.size w w' := by
  have HF0 := hidden (fit_of (xs := []) rfl)
  have HFI := hidden (fit_of (xs := I11) rfl)
  have HFD := hidden (fit_of (xs := D11) rfl)
  have HFS := hidden (fit_of (xs := S11) rfl)
  go_enter Try.func4, Try.ntmps4
  go_wp2_with fail
  refine (then_any _ _ [] [] w (OpsAt.nil _ _ _) (OpsAt.nil _ _ _) (by simp) (by simp) HF0.out HF0.out).mono ?_
  rw [show thn [] [] = some [] by decide]
  rintro e w1 ⟨v1, rfl, ho, hb⟩
  obtain ⟨a1, c1, e1⟩ := ho.shape
  simp only [Option.getD_some, List.length_nil] at e1
  subst e1
  have HB1 := hidden hb
  clear hb ho
  rw [show (some ([] : List Oq)).isSome = true from rfl]
  have HL1 := hidden (show OpsAt (w1.alloc (opO 4 0 [97, 10])) (.slice (some ⟨w1.heap.size, 0, none⟩) 1 1) I11 from ops_one _ _ _ _)
  have HL2 := hidden (show OpsAt ((w1.alloc (opO 4 0 [97, 10])).alloc (opO 3 0 [97, 10])) (.slice (some ⟨w1.heap.size + 1, 0, none⟩) 1 1) D11 from ops_oneAt _ _ _ _ _ (by simp))
  have HL3 := hidden (HL1.out.later (bel_alloc (Below.refl _ _) (opO 3 0 [97, 10])))
  have HB2 := hidden (bel_alloc (bel_alloc HB1.out (opO 4 0 [97, 10])) (opO 3 0 [97, 10]))
  clear HL1
  have hoo : opO 4 0 [97, 10] = .cells #[.int .i64 4, .int .i64 0, .string ⟨#[97, 10]⟩] 30 := rfl
  have hoo2 : opO 3 0 [97, 10] = .cells #[.int .i64 3, .int .i64 0, .string ⟨#[97, 10]⟩] 30 := rfl
  rw [hoo, hoo2] at HL2 HL3 HB2
  clear hoo hoo2
  go_wp2_with fail
  generalize World.alloc (World.alloc w1 _) _ = w2 at HL2 HL3 HB2 ⊢
  refine (then_any _ _ I11 D11 w2 HL3.out HL2.out (by simp [I11]) (by simp [D11]) HFI.out HFD.out).mono ?_
  rw [show thn I11 D11 = some [] by decide]
  rintro e w3 ⟨v3, rfl, ho, hb⟩
  obtain ⟨a3, c3, e3⟩ := ho.shape
  simp only [Option.getD_some, List.length_nil] at e3
  subst e3
  have HB3 := hidden (HB2.out.trans (hb.mono HB2.out.size))
  clear hb ho
  rw [show (some ([] : List Oq)).isSome = true from rfl]
  have HL4 := hidden (show OpsAt (w3.alloc (opO 1 2 [])) (.slice (some ⟨w3.heap.size, 0, none⟩) 1 1) S11 from ops_one _ _ _ _)
  have HB4 := hidden (bel_alloc HB3.out (opO 1 2 []))
  have hoo3 : opO 1 2 [] = .cells #[.int .i64 1, .int .i64 2, .string ⟨#[]⟩] 30 := rfl
  rw [hoo3] at HL4 HB4
  clear hoo3
  go_wp2_with fail
  generalize World.alloc w3 _ = w4 at HL4 HB4 ⊢
  refine (rest_any _ S11 w4 HL4.out (by simp [S11]) HFS.out).mono ?_
  rw [show rst S11 = [] by decide]
  rintro e w5 ⟨v5, rfl, ho, hb⟩
  obtain ⟨a5, c5, e5⟩ := ho.shape
  simp only [List.length_nil] at e5
  subst e5
  have HB5 := hidden (HB4.out.trans (hb.mono HB4.out.size))
  clear hb ho
  go_wp2_with fail
  go_ret
  exact ⟨by first | rfl | simp, HB5.out⟩

end Go.Proofs.Ytcdjemheokmglab
