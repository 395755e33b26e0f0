
/-
  What the law's own alive answers; no condition but those that each states.
-/
import Derived.Test.YtbbbphlojefgjaaTTidy
import Derived.Test.YtbbbphlojefgjaaTFact
import Derived.Test.YtbbbphlojefgjaaALaw
import Derived.Test.YtbbbphlojefgjaaOLaw
import Derived.Test.YtbbbphlojefgjaaCKeep
namespace Go.Proofs.Ytbbbphlojefgjaa
open Go.RowKit Go.Proofs.Ytbbbphlojefgjaa.Ln Go.Proofs.Ytbbbphlojefgjaa.Ol

theorem dooT_fit {l : List Oq} {old : List Tx} (hf : Fit l) (ho : FitT old) : FitT ((doo l old).getD []) := by
  cases h : doo l old with
  | none => exact fun x hx => by cases hx
  | some a => exact doo_fit hf ho h
theorem dooT_len (l : List Oq) (old : List Tx) : ((doo l old).getD []).length ≤ l.length + old.length := by
  cases h : doo l old with
  | none => simp
  | some a => exact doo_len h
def L13 : List Oq := [(3, 0, [97, 10]), (4, 0, [97, 10])]
def D13 : List Oq := [(3, 0, [97, 10])]

set_option maxHeartbeats 4000000 in
theorem alive13_any (w : World) : Calls Try.prog 7 #[] w fun e w' => e = .returned (.bool true) ∧ Below w.heap.size w w' := by
  have HF0 := hidden (fit_of (xs := []) rfl)
  have HFL := hidden (fit_of (xs := L13) rfl)
  have HFD := hidden (fit_of (xs := D13) rfl)
  have HL0 := hidden (show OpsAt (w.alloc (.cells #[.int .i64 3, .int .i64 0, .string ⟨#[97, 10]⟩, .int .i64 4, .int .i64 0, .string ⟨#[97, 10]⟩] 36)) (.slice (some ⟨w.heap.size, 0, none⟩) 2 2) L13 from ops_lit (World.alloc_heap_new w _) rfl rfl)
  have HD0 := hidden (show OpsAt (w.alloc (.cells #[.int .i64 3, .int .i64 0, .string ⟨#[97, 10]⟩, .int .i64 4, .int .i64 0, .string ⟨#[97, 10]⟩] 36)) (.slice (some ⟨w.heap.size, 0, none⟩) 1 2) D13 from OpsAt.head (k := 1) HL0.out rfl (by decide))
  have HB0 := hidden (bel_alloc (Below.refl w.heap.size w) (.cells #[.int .i64 3, .int .i64 0, .string ⟨#[97, 10]⟩, .int .i64 4, .int .i64 0, .string ⟨#[97, 10]⟩] 36))
  go_enter Try.func7, Try.ntmps7
  go_wp2_with fail
  generalize World.alloc w _ = w0 at HL0 HD0 HB0 ⊢
  refine (idle_any _ [] w0 (OpsAt.nil _ _ _) (by simp) HF0.out).mono ?_
  rw [show decide (chs (tdy []) = 0) = true by decide]
  rintro e w1 ⟨rfl, hb⟩
  have HL1 := hidden (HL0.out.later hb)
  have HD1 := hidden (HD0.out.later hb)
  have HB1 := hidden (HB0.out.trans (hb.mono HB0.out.size))
  clear hb
  go_wp2_with fail
  refine (idle_any _ L13 w1 HL1.out (by simp [L13]) HFL.out).mono ?_
  rw [show decide (chs (tdy L13) = 0) = true by decide]
  rintro e w2 ⟨rfl, hb⟩
  have HL2 := hidden (HL1.out.later hb)
  have HD2 := hidden (HD1.out.later hb)
  have HB2 := hidden (HB1.out.trans (hb.mono HB1.out.size))
  clear hb
  go_wp2_with fail
  refine (tidy_any _ L13 w2 HL2.out (by simp [L13]) HFL.out).mono ?_
  rw [show tdy L13 = [(2, 0, [97, 10])] by decide]
  rintro e w3 ⟨v3, rfl, ho, hb⟩
  obtain ⟨a3, c3, e3⟩ := ho.shape
  simp only [List.length_cons, List.length_nil] at e3
  subst e3
  have HD3 := hidden (HD2.out.later hb)
  have HB3 := hidden (HB2.out.trans (hb.mono HB2.out.size))
  clear hb ho
  go_wp2_with fail
  refine (idle_any _ D13 w3 HD3.out (by simp [D13]) HFD.out).mono ?_
  rw [show decide (chs (tdy D13) = 0) = false by decide]
  rintro e w4 ⟨rfl, hb⟩
  have HB4 := hidden (HB3.out.trans (hb.mono HB3.out.size))
  clear hb
  go_wp2_with fail
  go_ret
  exact ⟨by first | rfl | simp, HB4.out⟩

end Go.Proofs.Ytbbbphlojefgjaa
