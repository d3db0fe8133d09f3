import Derived.Test.YtdgbmcbkbkbdoaaGreatDoorRfG
import Derived.Test.YtdgbmcbkbkbdoaaGreatDoorCnA
import Derived.Test.YtdgbmcbkbkbdoaaGreatDoorEvA
namespace Go.Proofs.YtdgbmcbkbkbdoaaGreatDoor
open Go.RowKit
set_option maxRecDepth 100000 in
set_option maxHeartbeats 3200000 in
theorem rmeets_any (t : PTest) (k n : Int) (w : World) (hw : WfT t) :
  Calls Tryz.prog 128 #[rtv t, .agg #[.int .i64 k, .int .i64 n]] w fun e w' => e = .returned (.bool (meetsP t k n)) ∧ Below w.heap.size w w' := by
 have hk := hw.kind
 have hn := hw.nots
 obtain ⟨t0, t1, t2, t3⟩ := t
 simp only at hk hn
 clear hw
 simp only [rtv]
 rcases (by omega : t1 = 0 ∨ t1 = 1 ∨ t1 = 2 ∨ t1 = 3 ∨ t1 = 4 ∨ t1 = 5 ∨ t1 = 6) with e | e | e | e | e | e | e
 all_goals
  subst e
  clear hk
  simp only [rkind]
  go_enter Tryz.func128, Tryz.ntmps128
  go_wp2_with fail
 all_goals
  go_ret
  refine ⟨?_, ((Below.refl _ w).alloc (Nat.le_refl _) _).alloc (by simp) _⟩
  simp_all [meetsP, bareMeets, odd_eq]
 all_goals
  by_cases ho : t0 % 2 = 1
  all_goals
   simp_all
   try (first | omega | rfl)
end Go.Proofs.YtdgbmcbkbkbdoaaGreatDoor
