import Derived.Test.YtdgbmcbkbkbdoaaGreatDoorMdA
namespace Go.Proofs.YtdgbmcbkbkbdoaaGreatDoor
open Go.RowKit

def numMeets (t : PTest) (n : Int) : Bool := (decide (t.kind = 3) && decide (n = t.low)) || (decide (t.kind = 4) && decide (t.low ≤ n) && decide (n ≤ t.high)) || (decide (t.kind = 5) && decide (n < t.low)) || (decide (t.kind = 6) && decide (t.low < n))

theorem odd_eq (n : Nat) : ((n : Int) % 2 == 1) = decide (n % 2 = 1) := by
  rw [Bool.eq_iff_iff]
  simp
  omega

set_option maxRecDepth 100000 in
set_option maxHeartbeats 1600000 in
theorem numberMeets_any (n : Int) (t0 : Nat) (t1 t2 t3 : Int) (w : World) (hk : 3 ≤ t1 ∧ t1 ≤ 6) :
    Calls Tryz.prog 177 #[.int .i64 n, .agg #[.int .i64 (t0 : Int), .int .i64 t1, .int .i64 t2, .int .i64 t3]] w fun e w' => e = .returned (.bool (numMeets ⟨t0, t1, t2, t3⟩ n)) ∧ Below w.heap.size w w' := by
  rcases (by omega : t1 = 3 ∨ t1 = 4 ∨ t1 = 5 ∨ t1 = 6) with e | e | e | e
  · subst e
    go_enter Tryz.func177, Tryz.ntmps177
    go_wp2
    go_ret
    refine ⟨ret_bool ?_, (Below.refl _ w).alloc (Nat.le_refl _) _⟩
    rw [Bool.eq_iff_iff]
    simp [numMeets]
  · subst e
    by_cases h1 : t2 ≤ n
    all_goals
      go_enter Tryz.func177, Tryz.ntmps177
      go_wp2
      go_ret
      refine ⟨ret_bool ?_, (Below.refl _ w).alloc (Nat.le_refl _) _⟩
      rw [Bool.eq_iff_iff]
      simp [numMeets]
      try omega
  · subst e
    go_enter Tryz.func177, Tryz.ntmps177
    go_wp2
    go_ret
    refine ⟨ret_bool ?_, (Below.refl _ w).alloc (Nat.le_refl _) _⟩
    rw [Bool.eq_iff_iff]
    simp [numMeets]
  · subst e
    go_enter Tryz.func177, Tryz.ntmps177
    go_wp2
    go_ret
    refine ⟨ret_bool ?_, (Below.refl _ w).alloc (Nat.le_refl _) _⟩
    rw [Bool.eq_iff_iff]
    simp [numMeets]

set_option maxRecDepth 100000 in
set_option maxHeartbeats 1600000 in
theorem meetsBare_any (k n : Int) (t0 : Nat) (t1 t2 t3 : Int) (w : World) (hk : 0 ≤ t1 ∧ t1 ≤ 6) :
    Calls Tryz.prog 167 #[.agg #[.int .i64 k, .int .i64 n], .agg #[.int .i64 (t0 : Int), .int .i64 t1, .int .i64 t2, .int .i64 t3]] w fun e w' => e = .returned (.bool (bareMeets ⟨t0, t1, t2, t3⟩ k n)) ∧ Below w.heap.size w w' := by
  by_cases h3 : 3 ≤ t1
  · have g0 : (t1 == 0) = false := by simp; omega
    have g1 : (t1 == 1) = false := by simp; omega
    have g2 : (t1 == 2) = false := by simp; omega
    have hk2 : 3 ≤ t1 ∧ t1 ≤ 6 := by omega
    by_cases h0 : k = 0
    · subst h0
      have HB : Hid (bareMeets ⟨t0, t1, t2, t3⟩ 0 n = numMeets ⟨t0, t1, t2, t3⟩ n) := hide (by
        unfold bareMeets numMeets
        simp only [beq_eq_false_iff_ne] at g0 g1 g2
        simp [g0])
      clear hk h3
      go_enter Tryz.func167, Tryz.ntmps167
      go_wp2_with fail
      refine (numberMeets_any n t0 t1 t2 t3 _ hk2).mono ?_
      rintro e w1 ⟨rfl, hb⟩
      have HB1 := hide hb
      clear hb
      go_wp2
      go_ret
      exact ⟨ret_bool (unhide HB).symm, below_after (((Below.refl _ w).alloc (Nat.le_refl _) _).alloc (by simp) _) (unhide HB1)⟩
    · have g3 : (k == 0) = false := by simpa using h0
      have HB : Hid (bareMeets ⟨t0, t1, t2, t3⟩ k n = false) := hide (by
        unfold bareMeets
        simp only [beq_eq_false_iff_ne] at g0 g1 g2
        simp [g0, g1, g2, h0])
      clear hk h3 h0
      go_enter Tryz.func167, Tryz.ntmps167
      go_wp2_with fail
      go_ret
      exact ⟨ret_bool (unhide HB).symm, ((Below.refl _ w).alloc (Nat.le_refl _) _).alloc (by simp) _⟩
  · rcases (by omega : t1 = 0 ∨ t1 = 1 ∨ t1 = 2) with e | e | e
    all_goals
      subst e
      clear hk h3
      go_enter Tryz.func167, Tryz.ntmps167
      go_wp2_with fail
      go_ret
      refine ⟨ret_bool ?_, ((Below.refl _ w).alloc (Nat.le_refl _) _).alloc (by simp) _⟩
      simp [bareMeets]
    all_goals rfl

set_option maxRecDepth 100000 in
set_option maxHeartbeats 1600000 in
theorem meets_any (k n : Int) (t0 : Nat) (t1 t2 t3 : Int) (w : World) (hk : 0 ≤ t1 ∧ t1 ≤ 6) (h0 : t0 ≤ 1000) :
    Calls Tryz.prog 146 #[.agg #[.int .i64 k, .int .i64 n], .agg #[.int .i64 (t0 : Int), .int .i64 t1, .int .i64 t2, .int .i64 t3]] w fun e w' => e = .returned (.bool (meetsP ⟨t0, t1, t2, t3⟩ k n)) ∧ Below w.heap.size w w' := by
  go_enter Tryz.func146, Tryz.ntmps146
  go_wp2_with fail
  refine (meetsBare_any k n t0 t1 t2 t3 _ hk).mono ?_
  rintro e w1 ⟨rfl, hb⟩
  have HB1 := hide hb
  clear hb
  go_wp2
  go_ret
  refine ⟨ret_bool ?_, below_after (((Below.refl _ w).alloc (Nat.le_refl _) _).alloc (by simp) _) (unhide HB1)⟩
  unfold meetsP
  rw [← odd_eq]
  rfl
end Go.Proofs.YtdgbmcbkbkbdoaaGreatDoor
