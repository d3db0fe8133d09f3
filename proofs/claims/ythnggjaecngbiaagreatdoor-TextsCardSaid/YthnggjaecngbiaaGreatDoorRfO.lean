import Derived.Test.YthnggjaecngbiaaGreatDoorRfN
namespace Go.Proofs.YthnggjaecngbiaaGreatDoor
open Go.RowKit
theorem u8_60 : u8 60 = 60 := rfl
theorem u8_62 : u8 62 = 62 := rfl
theorem rep_snoc (j : Nat) : Lib.repeatL [33] (j + 1) = Lib.repeatL [33] j ++ [33] := by
 rw [Lib.repeatL_add]; rfl
set_option maxRecDepth 100000 in
set_option maxHeartbeats 3200000 in
theorem rtestOut_any (t : PTest) (w : World) (hw : WfT t) :
  Calls Tryz.prog 113 #[rtv t] w fun e w' => e = .returned (.string ⟨(testOut t).toArray⟩) ∧ Below w.heap.size w w' := by
 have hlo := hw.low
 have hhi := hw.high
 have hk := hw.kind
 have hn := hw.nots
 have l1 := itoa_len hlo.1 hlo.2
 have l2 := itoa_len hhi.1 hhi.2
 obtain ⟨t0, t1, t2, t3⟩ := t
 simp only at hlo hhi hk hn l1 l2
 clear hw
 simp only [rtv]
 go_enter Tryz.func113, Tryz.ntmps113
 go_wp2_with fail
 go_loopg [3, 4] t0 (fun g sv i wr => ∃ (j : Nat) (d : ByteArray), j ≤ t0 ∧ g = t0 - j ∧ i = .int .i64 (j : Int) ∧ sv = .string d ∧ d.data.toList = Lib.repeatL [33] j ∧ d.size = j ∧ wr = (w.alloc (.cells #[.int .u8 (rkind t1), .int .i64 (t0 : Int), .int .i64 t2, .int .i64 t3] 181)))
 case atStart => exact ⟨0, ⟨#[]⟩, by omega, rfl, rfl, rfl, rfl, rfl, rfl⟩
 case round =>
  obtain ⟨j, d, hj, hg, rfl, rfl, hd, hds, rfl⟩ := hrel
  have HD0 := hide hd
  clear hd
  by_cases hlt : j < t0
  ·have hjc : (j : Int) < t0 := by omega
   go_wp2_with fail
   go_roundg (t0 - (j + 1))
   case measure => omega
   case rel =>
    refine ⟨j + 1, _, by omega, rfl, by go_num, rfl, ?_, ?_, rfl⟩
    ·rw [rep_snoc, ← uh HD0]; simp
    ·rw [ByteArray.size_append, hds]; rfl
  ·have hje : j = t0 := by omega
   subst hje
   have HD := HD0
   have hjc : ¬ (j : Int) < j := by omega
   have HB0 := hide ((Below.refl _ w).alloc (Nat.le_refl _) (.cells #[.int .u8 (rkind t1), .int .i64 (j : Int), .int .i64 t2, .int .i64 t3] 181))
   clear hlt hg hj HD0
   rcases (by omega : t1 = 0 ∨ t1 = 1 ∨ t1 = 2 ∨ t1 = 3 ∨ t1 = 4 ∨ t1 = 5 ∨ t1 = 6) with e | e | e | e | e | e | e
   all_goals subst e
   all_goals clear hk
   ·rw [show rkind 0 = 95 from rfl] at *
    go_wp2_with fail
    go_ret
    refine ⟨ret_str ?_, uh HB0⟩
    simp only [testOut, bareOut]
    simp [uh HD]
   ·rw [show rkind 1 = 110 from rfl] at *
    go_wp2_with fail
    go_ret
    refine ⟨ret_str ?_, uh HB0⟩
    simp only [testOut, bareOut]
    simp [uh HD]
   ·rw [show rkind 2 = 99 from rfl] at *
    go_wp2_with fail
    go_ret
    refine ⟨ret_str ?_, uh HB0⟩
    simp only [testOut, bareOut]
    simp [uh HD]
   ·rw [show rkind 3 = 61 from rfl] at *
    go_wp2_with fail
    refine (rdigits_any _ _ hlo.1 hlo.2).mono ?_
    rintro e w1 ⟨rfl, hb1⟩
    obtain ⟨d1, hd1⟩ : ∃ d : ByteArray, (⟨(Lib.itoa t2).toArray⟩ : ByteArray) = d := ⟨_, rfl⟩
    have hs1 : d1.size ≤ 8 := by rw [← hd1]; show (Lib.itoa t2).toArray.size ≤ 8; rw [List.size_toArray]; exact l1
    rw [hd1]
    have HD1 : Hid (d1.data.toList = Lib.itoa t2) := hide (by rw [← hd1])
    have HB1 := hide (below_after (uh HB0) hb1)
    clear hb1 hd1
    go_wp2_with fail
    go_ret
    refine ⟨ret_str ?_, uh HB1⟩
    simp only [testOut, bareOut]
    simp [uh HD, uh HD1]
   ·rw [show rkind 4 = 46 from rfl] at *
    obtain ⟨d1, hd1⟩ : ∃ d : ByteArray, (⟨(Lib.itoa t2).toArray⟩ : ByteArray) = d := ⟨_, rfl⟩
    have hs1 : d1.size ≤ 8 := by rw [← hd1]; show (Lib.itoa t2).toArray.size ≤ 8; rw [List.size_toArray]; exact l1
    have HD1 : Hid (d1.data.toList = Lib.itoa t2) := hide (by rw [← hd1])
    have E1 := hide hd1
    clear hd1
    obtain ⟨d2, hd2⟩ : ∃ d : ByteArray, (⟨(Lib.itoa t3).toArray⟩ : ByteArray) = d := ⟨_, rfl⟩
    have hs2 : d2.size ≤ 8 := by rw [← hd2]; show (Lib.itoa t3).toArray.size ≤ 8; rw [List.size_toArray]; exact l2
    have HD2 : Hid (d2.data.toList = Lib.itoa t3) := hide (by rw [← hd2])
    have E2 := hide hd2
    clear hd2
    go_wp2_with fail
    go_region_with (first | (go_at_call_of 114 t2; refine (rdigits_any _ _ hlo.1 hlo.2).mono ?_; rintro e w1 ⟨rfl, hb1⟩; rw [uh E1]; have hb1 := below_of_drew hb1; have HB1 := hide (below_after (uh HB0) hb1); obtain ⟨c0, c1, c2, c3, f0, f1, f2, f3⟩ := cells4 ((hb1.block w.heap.size (by simp)).trans (alloc_last w _)); clear hb1) | (go_at_call_of 114 t3; refine (rdigits_any _ _ hhi.1 hhi.2).mono ?_; rintro e w2 ⟨rfl, hb2⟩; rw [uh E2]; have HB2 := hide (below_after (uh HB1) hb2); clear hb2))
    all_goals
     go_wp2_with fail
     go_ret
     refine ⟨ret_str ?_, uh HB2⟩
     simp only [testOut, bareOut]
     simp [uh HD, uh HD1, uh HD2]
   ·rw [show rkind 5 = 60 from rfl] at *
    have hq : ((w.alloc (.cells #[.int .u8 60, .int .i64 (j : Int), .int .i64 t2, .int .i64 t3] 181)).alloc (.cells #[.int .u8 60] 5)).heap[w.heap.size + 1]? = some (.cells #[.int .u8 60] 5) := by have := alloc_last (w.alloc (.cells #[.int .u8 60, .int .i64 (j : Int), .int .i64 t2, .int .i64 t3] 181)) (.cells #[.int .u8 60] 5); simpa using this
    have HQ := hide hq
    have hcv := conv_at 60 ((w.alloc (.cells #[.int .u8 60, .int .i64 (j : Int), .int .i64 t2, .int .i64 t3] 181)).alloc (.cells #[.int .u8 60] 5)).drew (w.heap.size + 1) hq
    clear hq
    obtain ⟨d1, hd1⟩ : ∃ d : ByteArray, (⟨(Lib.itoa t2).toArray⟩ : ByteArray) = d := ⟨_, rfl⟩
    have hs1 : d1.size ≤ 8 := by rw [← hd1]; show (Lib.itoa t2).toArray.size ≤ 8; rw [List.size_toArray]; exact l1
    have HD1 : Hid (d1.data.toList = Lib.itoa t2) := hide (by rw [← hd1])
    have E1 := hide hd1
    clear hd1
    go_wp2_with fail
    go_region_with (first | (go_at_call 114; refine (rdigits_any _ ((w.alloc (.cells #[.int .u8 60, .int .i64 (j : Int), .int .i64 t2, .int .i64 t3] 181)).alloc (.cells #[.int .u8 60] 5)).drew hlo.1 hlo.2).mono ?_; rintro e w1 ⟨rfl, hb1⟩; rw [uh E1]; have hb1 := below_of_drew hb1; have hcv1 := conv_at 60 w1 (w.heap.size + 1) ((hb1.block (w.heap.size + 1) (by simp)).trans (uh HQ)); have HB1 := hide (below_after ((uh HB0).alloc (by simp) (.cells #[.int .u8 60] 5)) hb1); clear hb1) | (go_at_call 114; refine (rdigits_any _ (w.alloc (.cells #[.int .u8 60, .int .i64 (j : Int), .int .i64 t2, .int .i64 t3] 181)).drew hlo.1 hlo.2).mono ?_; rintro e w1 ⟨rfl, hb1⟩; rw [uh E1]; have hb1 := below_of_drew hb1; have hcv1 := conv_one 60 w1 _ rfl; obtain ⟨c0, c1, c2, c3, f0, f1, f2, f3⟩ := cells4 ((hb1.block w.heap.size (by simp)).trans (alloc_last w _)); have HB1 := hide (below_after (uh HB0) hb1); clear hb1))
    all_goals
     go_wp2_with fail
     go_ret
     refine ⟨ret_str ?_, ?_⟩
     ·simp only [testOut, bareOut]
      simp [uh HD, uh HD1, u8_60]
     ·first | exact uh HB1 | exact (uh HB1).alloc (uh HB1).size _
   ·rw [show rkind 6 = 62 from rfl] at *
    have hq : ((w.alloc (.cells #[.int .u8 62, .int .i64 (j : Int), .int .i64 t2, .int .i64 t3] 181)).alloc (.cells #[.int .u8 62] 5)).heap[w.heap.size + 1]? = some (.cells #[.int .u8 62] 5) := by have := alloc_last (w.alloc (.cells #[.int .u8 62, .int .i64 (j : Int), .int .i64 t2, .int .i64 t3] 181)) (.cells #[.int .u8 62] 5); simpa using this
    have HQ := hide hq
    have hcv := conv_at 62 ((w.alloc (.cells #[.int .u8 62, .int .i64 (j : Int), .int .i64 t2, .int .i64 t3] 181)).alloc (.cells #[.int .u8 62] 5)).drew (w.heap.size + 1) hq
    clear hq
    obtain ⟨d1, hd1⟩ : ∃ d : ByteArray, (⟨(Lib.itoa t2).toArray⟩ : ByteArray) = d := ⟨_, rfl⟩
    have hs1 : d1.size ≤ 8 := by rw [← hd1]; show (Lib.itoa t2).toArray.size ≤ 8; rw [List.size_toArray]; exact l1
    have HD1 : Hid (d1.data.toList = Lib.itoa t2) := hide (by rw [← hd1])
    have E1 := hide hd1
    clear hd1
    go_wp2_with fail
    go_region_with (first | (go_at_call 114; refine (rdigits_any _ ((w.alloc (.cells #[.int .u8 62, .int .i64 (j : Int), .int .i64 t2, .int .i64 t3] 181)).alloc (.cells #[.int .u8 62] 5)).drew hlo.1 hlo.2).mono ?_; rintro e w1 ⟨rfl, hb1⟩; rw [uh E1]; have hb1 := below_of_drew hb1; have hcv1 := conv_at 62 w1 (w.heap.size + 1) ((hb1.block (w.heap.size + 1) (by simp)).trans (uh HQ)); have HB1 := hide (below_after ((uh HB0).alloc (by simp) (.cells #[.int .u8 62] 5)) hb1); clear hb1) | (go_at_call 114; refine (rdigits_any _ (w.alloc (.cells #[.int .u8 62, .int .i64 (j : Int), .int .i64 t2, .int .i64 t3] 181)).drew hlo.1 hlo.2).mono ?_; rintro e w1 ⟨rfl, hb1⟩; rw [uh E1]; have hb1 := below_of_drew hb1; have hcv1 := conv_one 62 w1 _ rfl; obtain ⟨c0, c1, c2, c3, f0, f1, f2, f3⟩ := cells4 ((hb1.block w.heap.size (by simp)).trans (alloc_last w _)); have HB1 := hide (below_after (uh HB0) hb1); clear hb1))
    all_goals
     go_wp2_with fail
     go_ret
     refine ⟨ret_str ?_, ?_⟩
     ·simp only [testOut, bareOut]
      simp [uh HD, uh HD1, u8_62]
     ·first | exact uh HB1 | exact (uh HB1).alloc (uh HB1).size _
end Go.Proofs.YthnggjaecngbiaaGreatDoor
