
/-
  What the law's own alive answers; no condition but those that each states.
-/
import Derived.Test.YtmbalnjobcgpkaaJInter
import Derived.Test.YtmbalnjobcgpkaaALaw
import Derived.Test.YtmbalnjobcgpkaaOLaw
namespace Go.Proofs.Ytmbalnjobcgpkaa
open Go.RowKit Go.Proofs.Ytmbalnjobcgpkaa.Ln Go.Proofs.Ytmbalnjobcgpkaa.Ol

theorem dooJ_fit {l : List Oq} {old : List Tx} (hf : Fit l) (ho : FitT old) : FitT ((doo l old).getD []) := by
  cases h : doo l old with
  | none => exact fun x hx => by cases hx
  | some a => exact doo_fit hf ho h
theorem dooJ_len (l : List Oq) (old : List Tx) : ((doo l old).getD []).length ≤ l.length + old.length := by
  cases h : doo l old with
  | none => simp
  | some a => exact doo_len h
def IA14 : List Oq := [(4, 0, [97, 10])]
def IB14 : List Oq := [(4, 0, [98, 10])]

set_option maxHeartbeats 4000000 in
theorem alive14_any (w : World) : Calls Try.prog 8 #[] w fun e w' => e = .returned (.bool true) ∧ Below w.heap.size w w' := by
  have HF0 := hidden (fit_of (xs := []) rfl)
  have HFA := hidden (fit_of (xs := IA14) rfl)
  have HFB := hidden (fit_of (xs := IB14) rfl)
  go_enter Try.func8, Try.ntmps8
  go_wp2_with fail
  refine (inter_any _ _ [] [] w (OpsAt.nil _ _ _) (OpsAt.nil _ _ _) (by simp) (by simp) HF0.out HF0.out).mono ?_
  rw [show itr [] [] = some [] by decide]
  rintro e w1 ⟨v1, rfl, ho, hb⟩
  obtain ⟨a1, c1, e1⟩ := ho.shape
  simp only [Option.getD_some, List.length_nil] at e1
  subst e1
  have HB1 := hidden hb
  clear hb ho
  rw [show (some ([] : List Oq)).isSome = true from rfl]
  have HL1 := hidden (show OpsAt (w1.alloc (opO 4 0 [97, 10])) (.slice (some ⟨w1.heap.size, 0, none⟩) 1 1) IA14 from ops_one _ _ _ _)
  have HL2 := hidden (show OpsAt ((w1.alloc (opO 4 0 [97, 10])).alloc (opO 4 0 [98, 10])) (.slice (some ⟨w1.heap.size + 1, 0, none⟩) 1 1) IB14 from ops_oneAt _ _ _ _ _ (by simp))
  have HL3 := hidden (HL1.out.later (bel_alloc (Below.refl _ _) (opO 4 0 [98, 10])))
  have HB2 := hidden (bel_alloc (bel_alloc HB1.out (opO 4 0 [97, 10])) (opO 4 0 [98, 10]))
  clear HL1
  have hoo : opO 4 0 [97, 10] = .cells #[.int .i64 4, .int .i64 0, .string ⟨#[97, 10]⟩] 37 := rfl
  have hoo2 : opO 4 0 [98, 10] = .cells #[.int .i64 4, .int .i64 0, .string ⟨#[98, 10]⟩] 37 := rfl
  rw [hoo, hoo2] at HL2 HL3 HB2
  clear hoo hoo2
  go_wp2_with fail
  generalize World.alloc (World.alloc w1 _) _ = w2 at HL2 HL3 HB2 ⊢
  refine (inter_any _ _ IA14 IB14 w2 HL3.out HL2.out (by simp [IA14]) (by simp [IB14]) HFA.out HFB.out).mono ?_
  rw [show itr IA14 IB14 = some [(3, 0, [97, 10]), (4, 0, [98, 10])] by decide]
  rintro e w3 ⟨v3, rfl, ho, hb⟩
  simp only [Option.getD_some] at ho
  obtain ⟨b, o, cap, rfl, hcap, hbl, hc⟩ := ho.cells (by simp)
  obtain ⟨c1, c2, c3⟩ := hc 0 _ rfl
  simp only [List.length_cons, List.length_nil, Nat.zero_add, Nat.zero_mul, Nat.add_zero] at hcap c1 c2 c3 ⊢
  have HB3 := hidden (HB2.out.trans (hb.mono HB2.out.size))
  clear hb ho hc c2 c3
  rw [show (some ([(3, 0, [97, 10]), (4, 0, [98, 10])] : List Oq)).isSome = true from rfl]
  go_wp2_with fail
  go_ret
  exact ⟨by first | rfl | simp, HB3.out⟩

end Go.Proofs.Ytmbalnjobcgpkaa
