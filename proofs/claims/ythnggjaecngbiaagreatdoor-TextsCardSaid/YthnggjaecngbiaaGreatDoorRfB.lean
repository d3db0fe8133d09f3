import Derived.Test.YthnggjaecngbiaaGreatDoorRfA
namespace Go.Proofs.YthnggjaecngbiaaGreatDoor
open Go.RowKit
set_option maxHeartbeats 400000 in
theorem rblanks_ok (b : Nat) (s : ByteArray) (k : Nat) (far : Bool) (w : World) (hr : RR b s k false far w) (hs : s.size ≤ 1000) (hk : k ≤ s.size) :
  Calls Tryz.prog 106 #[.pointer (some ⟨b, 0, none⟩)] w fun e w' => e = .returned (.tuple #[]) ∧ Mv b w w' ∧ RR b s (nextP s k) false far w' := by
 go_enter Tryz.func106, Tryz.ntmps106
 go_wp2_with fail
 go_loopg [] (s.size - k) (fun g wr => ∃ m, m ≤ s.size ∧ g = s.size - m ∧ nextP s m = nextP s k ∧ Mv b w wr ∧ RR b s m false far wr)
 case atStart => exact ⟨k, hk, rfl, rfl, Mv.refl _ _, hr⟩
 case round =>
  obtain ⟨m, hm, hg, hn, hmv, hrd⟩ := hrel
  clear hr
  have A : Aside (gk = s.size - m ∧ nextP s m = nextP s k ∧ Mv b w wr ∧ RR b s m false far wr) := ⟨hg, hn, hmv, hrd⟩
  clear hg hn hmv
  have h1 := hrd.at
  have hf := hrd.free 1
  clear hrd
  have hblank : isBlank (byteAt s m) = isBlank (hv s m false) := (hv_blank s m).symm
  by_cases h32 : hv s m false = 32
  ·have hlt : m < s.size := by
    rcases Nat.lt_or_ge m s.size with h | h
    ·exact h
    ·rw [hv_out h] at h32; omega
   have HB : Hid (isBlank (byteAt s m) = true) := hide (by rw [hblank, h32]; rfl)
   have H32 := hide h32
   clear h32 hblank
   go_wp2_with (go_at_call 137; refine (rhere_any _ _ m false far _ (by exact A.out.2.2.2)).mono ?_; rintro e w' ⟨rfl, n, rfl⟩; rw [uh H32])
   go_roundg (s.size - (m + 1))
   case measure => obtain ⟨hg, _⟩ := A.out; omega
   case rel =>
    obtain ⟨hg, hn, hmv, hrd⟩ := A.out
    refine ⟨m + 1, by omega, rfl, by rw [← hn, nextP_step hlt HB.out], (hmv.drewN _).set _ _, ?_⟩
    rw [show ((m : Int) + 1) = ((m + 1 : Nat) : Int) from by omega]
    exact (hrd.drewN _).setAt (m + 1)
  ·by_cases h10 : hv s m false = 10
   ·have hlt : m < s.size := by
     rcases Nat.lt_or_ge m s.size with h | h
     ·exact h
     ·rw [hv_out h] at h10; omega
    have HB : Hid (isBlank (byteAt s m) = true) := hide (by rw [hblank, h10]; rfl)
    have H10 := hide h10
    clear h10 h32 hblank
    go_wp2_with (go_at_call 137; refine (rhere_any _ _ m false far _ (by exact A.out.2.2.2)).mono ?_; rintro e w' ⟨rfl, n, rfl⟩; rw [uh H10])
    go_roundg (s.size - (m + 1))
    case measure => obtain ⟨hg, _⟩ := A.out; omega
    case rel =>
     obtain ⟨hg, hn, hmv, hrd⟩ := A.out
     refine ⟨m + 1, by omega, rfl, by rw [← hn, nextP_step hlt HB.out], (hmv.drewN _).set _ _, ?_⟩
     rw [show ((m : Int) + 1) = ((m + 1 : Nat) : Int) from by omega]
     exact (hrd.drewN _).setAt (m + 1)
   ·have HB : Hid (isBlank (byteAt s m) = false) := hide (by rw [hblank]; unfold isBlank; simp [h32, h10])
    have e32 : (hv s m false == 32) = false := by simpa using h32
    have e10 : (hv s m false == 10) = false := by simpa using h10
    clear h10 h32 hblank
    generalize hx : hv s m false = x at *
    have HX := hide hx
    clear hx
    go_wp2_with (go_at_call 137; refine (rhere_any _ _ m false far _ (by exact A.out.2.2.2)).mono ?_; rintro e w' ⟨rfl, n, rfl⟩; rw [uh HX])
    go_end0
    obtain ⟨hg, hn, hmv, hrd⟩ := A.out
    rw [nextP_stop HB.out] at hn
    rw [← hn]
    exact ⟨rfl, hmv.drewN _, hrd.drewN _⟩
set_option maxHeartbeats 400000 in
theorem rblanks_bad (b : Nat) (s : ByteArray) (k : Nat) (far : Bool) (w : World) (hr : RR b s k true far w) :
  Calls Tryz.prog 106 #[.pointer (some ⟨b, 0, none⟩)] w fun e w' => e = .returned (.tuple #[]) ∧ Mv b w w' ∧ RR b s k true far w' := by
 have H := hide hr
 clear hr
 go_enter Tryz.func106, Tryz.ntmps106
 go_wp2_with fail
 go_loopg [] 0 (fun _ wr => wr = w)
 case atStart => rfl
 case round =>
  subst hrel
  go_wp2_with (go_at_call 137; refine (rhere_any _ _ k true far _ (by exact uh H)).mono ?_; rintro e w' ⟨rfl, n, rfl⟩; rw [hv_bad])
  go_end0
  exact ⟨rfl, (Mv.refl _ _).drewN _, (uh H).drewN _⟩
set_option maxHeartbeats 400000 in
theorem rone_yes (b : Nat) (s : ByteArray) (k : Nat) (c : Int) (far : Bool) (w : World) (hr : RR b s k false far w) (hs : s.size ≤ 1000) (hc : 0 < c) (h : inR s k c c = true) :
  Calls Tryz.prog 141 #[.pointer (some ⟨b, 0, none⟩), .int .u8 c] w fun e w' => e = .returned (.tuple #[]) ∧ Mv b w w' ∧ RR b s (nextP s (k + 1)) false far w' := by
 have hlt := inR_lt (by omega) h
 have HX := hide (hv_yes h hc)
 have h1 := hr.at
 have hf := hr.free 1
 have H := hide hr
 clear hr h
 go_enter Tryz.func141, Tryz.ntmps141
 go_wp2_with (go_at_call 137; refine (rhere_any _ _ k false far _ (by exact uh H)).mono ?_; rintro e w' ⟨rfl, n, rfl⟩; rw [uh HX])
 refine (rblanks_ok b s (k + 1) far _ (by rw [show ((k : Int) + 1) = ((k + 1 : Nat) : Int) from by omega]; exact ((uh H).drewN _).setAt (k + 1)) hs (by omega)).mono ?_
 rintro e w2 ⟨rfl, hm, hr2⟩
 have HM := hide (((Mv.refl b w).drewN _).set _ _ |>.trans hm)
 have HR := hide hr2
 clear hm hr2
 go_wp2
 go_end0
 exact ⟨rfl, uh HM, uh HR⟩
set_option maxHeartbeats 400000 in
theorem rone_no (b : Nat) (s : ByteArray) (k : Nat) (c : Int) (bad far : Bool) (w : World) (hr : RR b s k bad far w) (hc : 0 < c) (h : bad = true ∨ inR s k c c = false) :
  Calls Tryz.prog 141 #[.pointer (some ⟨b, 0, none⟩), .int .u8 c] w fun e w' => e = .returned (.tuple #[]) ∧ Mv b w w' ∧ RR b s k true far w' := by
 have hne : (hv s k bad == c) = false := by
  rcases h with rfl | h
  ·rw [hv_bad]; simp; omega
  ·cases bad with
   | true => rw [hv_bad]; simp; omega
   | false => exact hv_ne hc h
 generalize hx : hv s k bad = x at *
 have HX := hide hx
 clear hx h
 have h2 := hr.badC
 have hf := hr.free 2
 have H := hide hr
 clear hr
 go_enter Tryz.func141, Tryz.ntmps141
 go_wp2_with (go_at_call 137; refine (rhere_any _ _ k bad far _ (by exact uh H)).mono ?_; rintro e w' ⟨rfl, n, rfl⟩; rw [uh HX])
 (try simp only [Exit.inBlock, Exit.then]); refine bodyPost_ret (results_none rfl _ _ _) rfl ?_
 exact ⟨rfl, ((Mv.refl b w).drewN _).set _ _, ((uh H).drewN _).setBad true⟩
set_option maxHeartbeats 400000 in
theorem rletter_any (c : Int) (w : World) :
  Calls Tryz.prog 138 #[.int .u8 c] w fun e w' => e = .returned (.bool (isLow c)) ∧ w' = w := by
 by_cases h1 : 97 ≤ c
 ·have h2 : decide (97 ≤ c) = true := by simpa using h1
  go_enter Tryz.func138, Tryz.ntmps138
  go_wp2
  go_ret
  refine ⟨ret_bool ?_, rfl⟩
  simp [isLow, h1]
 ·have h2 : decide (97 ≤ c) = false := by simpa using h1
  go_enter Tryz.func138, Tryz.ntmps138
  go_wp2
  go_ret
  refine ⟨ret_bool ?_, rfl⟩
  have h3 : ¬ 97 ≤ c := by omega
  simp [isLow, h3]
set_option maxHeartbeats 400000 in
theorem rdigit_any (c : Int) (w : World) :
  Calls Tryz.prog 192 #[.int .u8 c] w fun e w' => e = .returned (.bool (isDig c)) ∧ w' = w := by
 by_cases h1 : 48 ≤ c
 ·have h2 : decide (48 ≤ c) = true := by simpa using h1
  go_enter Tryz.func192, Tryz.ntmps192
  go_wp2
  go_ret
  refine ⟨ret_bool ?_, rfl⟩
  simp [isDig, h1]
 ·have h2 : decide (48 ≤ c) = false := by simpa using h1
  go_enter Tryz.func192, Tryz.ntmps192
  go_wp2
  go_ret
  refine ⟨ret_bool ?_, rfl⟩
  have h3 : ¬ 48 ≤ c := by omega
  simp [isDig, h3]
end Go.Proofs.YthnggjaecngbiaaGreatDoor
