import Derived.Test.YtdgbmcbkbkbdoaaGreatDoorRows
import Derived.Test.YtdgbmcbkbkbdoaaGreatDoorRdD
namespace Go.Proofs.YtdgbmcbkbkbdoaaGreatDoor
open Go.RowKit
/-! The document's own reader (package curtainref). -/
def RR (b : Nat) (s : ByteArray) (k : Nat) (bad far : Bool) (w : World) : Prop := w.heap[b]? = some (.cells #[.string s, .int .i64 (k : Int), .bool bad, .bool far] 165)
section
variable {b : Nat} {s : ByteArray} {k : Nat} {bad far : Bool} {w w' w'' : World}
theorem RR.lt (h : RR b s k bad far w) : b < w.heap.size := (Array.getElem?_eq_some_iff.1 h).1
theorem RR.text (h : RR b s k bad far w) : w.cell? ⟨b, 0, none⟩ = some (.string s) := by
 unfold RR at h; simp [World.cell?, h]
theorem RR.at (h : RR b s k bad far w) : w.cell? ⟨b, 1, none⟩ = some (.int .i64 (k : Int)) := by
 unfold RR at h; simp [World.cell?, h]
theorem RR.badC (h : RR b s k bad far w) : w.cell? ⟨b, 2, none⟩ = some (.bool bad) := by
 unfold RR at h; simp [World.cell?, h]
theorem RR.farC (h : RR b s k bad far w) : w.cell? ⟨b, 3, none⟩ = some (.bool far) := by
 unfold RR at h; simp [World.cell?, h]
theorem RR.free (h : RR b s k bad far w) (i : Nat) : w.frozen? ⟨b, i, none⟩ = false := by
 unfold RR at h; simp [World.frozen?, h]
theorem RR.drewN (h : RR b s k bad far w) (n : Nat) : RR b s k bad far (w.drewN n) := h
theorem RR.setAt (h : RR b s k bad far w) (m : Nat) : RR b s m bad far (w.setCell ⟨b, 1, none⟩ (.int .i64 (m : Int))) := by
 unfold RR at h ⊢; simp [World.setCell, Array.getElem?_modify, h]
theorem RR.setBad (h : RR b s k bad far w) (x : Bool) : RR b s k x far (w.setCell ⟨b, 2, none⟩ (.bool x)) := by
 unfold RR at h ⊢; simp [World.setCell, Array.getElem?_modify, h]
theorem RR.setFar (h : RR b s k bad far w) (x : Bool) : RR b s k bad x (w.setCell ⟨b, 3, none⟩ (.bool x)) := by
 unfold RR at h ⊢; simp [World.setCell, Array.getElem?_modify, h]
theorem RR.keep (h : RR b s k bad far w) (e : w'.heap[b]? = w.heap[b]?) : RR b s k bad far w' := by
 unfold RR at h ⊢; rw [e]; exact h
end
structure Mv (b : Nat) (w w' : World) : Prop where
 os : w'.os = w.os
 tape : w'.tape = w.tape
 output : w'.output = w.output
 size : w.heap.size ≤ w'.heap.size
 block : ∀ j, j < w.heap.size → j ≠ b → w'.heap[j]? = w.heap[j]?
section
variable {b : Nat} {w w' w'' : World}
theorem Mv.refl (b : Nat) (w : World) : Mv b w w := ⟨rfl, rfl, rfl, Nat.le_refl _, fun _ _ _ => rfl⟩
theorem Mv.drewN (h : Mv b w w') (n : Nat) : Mv b w (w'.drewN n) := ⟨h.os, h.tape, h.output, h.size, h.block⟩
theorem Mv.drew (h : Mv b w w') : Mv b w w'.drew := ⟨h.os, h.tape, h.output, h.size, h.block⟩
theorem Mv.of_drew (h : Mv b w.drew w') : Mv b w w' := ⟨h.os, h.tape, h.output, h.size, h.block⟩
theorem Mv.trans (h : Mv b w w') (g : Mv b w' w'') : Mv b w w'' :=
 ⟨g.os.trans h.os, g.tape.trans h.tape, g.output.trans h.output, Nat.le_trans h.size g.size, fun j hj hb => (g.block j (Nat.lt_of_lt_of_le hj h.size) hb).trans (h.block j hj hb)⟩
theorem Mv.set (h : Mv b w w') (i : Nat) (v : Value) : Mv b w (w'.setCell ⟨b, i, none⟩ v) :=
 ⟨h.os, h.tape, h.output, by simp only [World.setCell, Array.size_modify]; exact h.size, fun j hj hb => by rw [Below.heap_setCell _ _ _ _ hb]; exact h.block j hj hb⟩
theorem Mv.setNew (h : Mv b w w') {a : Addr} (ha : w.heap.size ≤ a.block) (v : Value) : Mv b w (w'.setCell a v) :=
 ⟨h.os, h.tape, h.output, by simp only [World.setCell, Array.size_modify]; exact h.size, fun j hj hjb => by rw [Below.heap_setCell _ _ _ _ (by omega)]; exact h.block j hj hjb⟩
theorem Mv.below (h : Mv b w w') (g : Below w'.heap.size w' w'') : Mv b w w'' :=
 ⟨g.os.trans h.os, g.tape.trans h.tape, g.output.trans h.output, Nat.le_trans h.size g.size, fun j hj hb => (g.block j (Nat.lt_of_lt_of_le hj h.size)).trans (h.block j hj hb)⟩
theorem Mv.alloc (h : Mv b w w') (o : Obj) : Mv b w (w'.alloc o) := h.below ((Below.refl _ _).alloc (Nat.le_refl _) _)
theorem Mv.of_alloc {o : Obj} (h : Mv b (w.alloc o) w') : Mv b w w' :=
 ⟨h.os, h.tape, h.output, by have := h.size; simp at this; omega, fun j hj hb => by rw [h.block j (by simp; omega) hb, Below.heap_alloc _ _ _ hj]⟩
theorem Mv.kept {o : Obj} (h : Mv b (w.alloc o) w') (hb : b < w.heap.size) : w'.heap[w.heap.size]? = some o := by
 rw [h.block _ (by simp) (by omega)]; exact alloc_last w o
theorem Mv.grown {row : Option Nat} (h : Mv b w w') (g : w'.grownBy w'' row) (hr : ∀ j, row = some j → w.heap.size ≤ j) : Mv b w w'' :=
 ⟨g.os.trans h.os, g.tape.trans h.tape, g.output.trans h.output, Nat.le_trans h.size g.size, fun j hj hjb => (g.block j (Nat.lt_of_lt_of_le hj h.size) (fun e => by have := hr j e.symm; omega)).trans (h.block j hj hjb)⟩
theorem Mv.below_of {o : Obj} (h : Mv w.heap.size (w.alloc o) w') : Below w.heap.size w w' :=
 ⟨h.os, h.tape, h.output, by have := h.size; simp at this; omega, fun j hj => by rw [h.block j (by simp; omega) (by omega), Below.heap_alloc _ _ _ hj]⟩
end
def hv (s : ByteArray) (k : Nat) (bad : Bool) : Int := if bad then 0 else if k < s.size then byteAt s k else 0
theorem hv_bad (s : ByteArray) (k : Nat) : hv s k true = 0 := rfl
theorem hv_in {s : ByteArray} {k : Nat} (h : k < s.size) : hv s k false = (s[k].toNat : Int) := by simp [hv, h, byteAt]
theorem hv_out {s : ByteArray} {k : Nat} (h : s.size ≤ k) : hv s k false = 0 := by
 have : ¬ k < s.size := by omega
 simp [hv, this]
theorem hv_eq {s : ByteArray} {k : Nat} {c : Int} (hc : 0 < c) : (hv s k false == c) = inR s k c c := by
 rw [inR_one]
 by_cases h : k < s.size
 ·rw [hv_in h, byteAt_in h]; rw [Bool.eq_iff_iff]; simp
 ·rw [hv_out (by omega), byteAt_out (by omega), Bool.eq_iff_iff]; simp; omega
theorem hv_ne {s : ByteArray} {k : Nat} {c : Int} (hc : 0 < c) (h : inR s k c c = false) : (hv s k false == c) = false := by rw [hv_eq hc]; exact h
theorem hv_yes {s : ByteArray} {k : Nat} {c : Int} (h : inR s k c c = true) (hc : 0 < c) : hv s k false = c := by
 have := hv_eq (s := s) (k := k) hc
 rw [h] at this
 simpa using this
theorem hv_low (s : ByteArray) (k : Nat) : isLow (hv s k false) = isLow (byteAt s k) := by
 by_cases h : k < s.size
 ·rw [hv_in h, byteAt_in h]
 ·rw [hv_out (by omega), byteAt_out (by omega)]; rfl
theorem hv_dig (s : ByteArray) (k : Nat) : isDig (hv s k false) = isDig (byteAt s k) := by
 by_cases h : k < s.size
 ·rw [hv_in h, byteAt_in h]
 ·rw [hv_out (by omega), byteAt_out (by omega)]; rfl
theorem hv_blank (s : ByteArray) (k : Nat) : isBlank (hv s k false) = isBlank (byteAt s k) := by
 by_cases h : k < s.size
 ·rw [hv_in h, byteAt_in h]
 ·rw [hv_out (by omega), byteAt_out (by omega)]; rfl
theorem hv_bd (s : ByteArray) (k : Nat) (bad : Bool) : 0 ≤ hv s k bad ∧ hv s k bad ≤ 255 := by
 unfold hv byteAt
 split
 ·omega
 ·split
  ·have := (s[k]).toNat_lt; omega
  ·omega
set_option maxHeartbeats 400000 in
theorem rhere_any (b : Nat) (s : ByteArray) (k : Nat) (bad far : Bool) (w : World) (hr : RR b s k bad far w) :
  Calls Tryz.prog 121 #[.pointer (some ⟨b, 0, none⟩)] w fun e w' => e = .returned (.int .u8 (hv s k bad)) ∧ ∃ n, w' = w.drewN n := by
 have h0 := hr.text
 have h1 := hr.at
 have h2 := hr.badC
 clear hr
 cases bad with
 | true =>
  go_enter Tryz.func121, Tryz.ntmps121
  go_wp2
  go_quiet (fail)
  go_wp2
  go_ret
  exact ⟨rfl, _, rfl⟩
 | false =>
  by_cases hk : k < s.size
  ·have hd : decide ((s.size : Int) ≤ (k : Int)) = false := by simp; omega
   rw [hv_in hk]
   go_enter Tryz.func121, Tryz.ntmps121
   go_wp2
   go_quiet (fail)
   go_wp2
   go_quiet (fail)
   go_wp2
   go_ret
   exact ⟨rfl, _, World.drewN_drewN _ _ _⟩
  ·have hd : decide ((s.size : Int) ≤ (k : Int)) = true := by simp; omega
   rw [hv_out (by omega)]
   go_enter Tryz.func121, Tryz.ntmps121
   go_wp2
   go_quiet (fail)
   go_wp2
   go_ret
   exact ⟨rfl, _, rfl⟩
end Go.Proofs.YtdgbmcbkbkbdoaaGreatDoor
namespace Go.Proofs.YtdgbmcbkbkbdoaaGreatDoor
open Go.RowKit
set_option maxHeartbeats 400000 in
theorem rblanks_ok (b : Nat) (s : ByteArray) (k : Nat) (far : Bool) (w : World) (hr : RR b s k false far w) (hs : s.size ≤ 1000) (hk : k ≤ s.size) :
  Calls Tryz.prog 94 #[.pointer (some ⟨b, 0, none⟩)] w fun e w' => e = .returned (.tuple #[]) ∧ Mv b w w' ∧ RR b s (nextP s k) false far w' := by
 go_enter Tryz.func94, Tryz.ntmps94
 go_wp2_with fail
 go_loopg [] (s.size - k) (fun g wr => ∃ m, m ≤ s.size ∧ g = s.size - m ∧ nextP s m = nextP s k ∧ Mv b w wr ∧ RR b s m false far wr)
 case atStart => exact ⟨k, hk, rfl, rfl, Mv.refl _ _, hr⟩
 case round =>
  obtain ⟨m, hm, hg, hn, hmv, hrd⟩ := hrel
  clear hr
  have A : Aside (gk = s.size - m ∧ nextP s m = nextP s k ∧ Mv b w wr ∧ RR b s m false far wr) := ⟨hg, hn, hmv, hrd⟩
  clear hg hn hmv
  have h1 := hrd.at
  have hf := hrd.free 1
  clear hrd
  have hblank : isBlank (byteAt s m) = isBlank (hv s m false) := (hv_blank s m).symm
  by_cases h32 : hv s m false = 32
  ·have hlt : m < s.size := by
    rcases Nat.lt_or_ge m s.size with h | h
    ·exact h
    ·rw [hv_out h] at h32; omega
   have HB : Hid (isBlank (byteAt s m) = true) := hide (by rw [hblank, h32]; rfl)
   have H32 := hide h32
   clear h32 hblank
   go_wp2_with (go_at_call 121; refine (rhere_any _ _ m false far _ (by exact A.out.2.2.2)).mono ?_; rintro e w' ⟨rfl, n, rfl⟩; rw [uh H32])
   go_roundg (s.size - (m + 1))
   case measure => obtain ⟨hg, _⟩ := A.out; omega
   case rel =>
    obtain ⟨hg, hn, hmv, hrd⟩ := A.out
    refine ⟨m + 1, by omega, rfl, by rw [← hn, nextP_step hlt HB.out], (hmv.drewN _).set _ _, ?_⟩
    rw [show ((m : Int) + 1) = ((m + 1 : Nat) : Int) from by omega]
    exact (hrd.drewN _).setAt (m + 1)
  ·by_cases h10 : hv s m false = 10
   ·have hlt : m < s.size := by
     rcases Nat.lt_or_ge m s.size with h | h
     ·exact h
     ·rw [hv_out h] at h10; omega
    have HB : Hid (isBlank (byteAt s m) = true) := hide (by rw [hblank, h10]; rfl)
    have H10 := hide h10
    clear h10 h32 hblank
    go_wp2_with (go_at_call 121; refine (rhere_any _ _ m false far _ (by exact A.out.2.2.2)).mono ?_; rintro e w' ⟨rfl, n, rfl⟩; rw [uh H10])
    go_roundg (s.size - (m + 1))
    case measure => obtain ⟨hg, _⟩ := A.out; omega
    case rel =>
     obtain ⟨hg, hn, hmv, hrd⟩ := A.out
     refine ⟨m + 1, by omega, rfl, by rw [← hn, nextP_step hlt HB.out], (hmv.drewN _).set _ _, ?_⟩
     rw [show ((m : Int) + 1) = ((m + 1 : Nat) : Int) from by omega]
     exact (hrd.drewN _).setAt (m + 1)
   ·have HB : Hid (isBlank (byteAt s m) = false) := hide (by rw [hblank]; unfold isBlank; simp [h32, h10])
    have e32 : (hv s m false == 32) = false := by simpa using h32
    have e10 : (hv s m false == 10) = false := by simpa using h10
    clear h10 h32 hblank
    generalize hx : hv s m false = x at *
    have HX := hide hx
    clear hx
    go_wp2_with (go_at_call 121; refine (rhere_any _ _ m false far _ (by exact A.out.2.2.2)).mono ?_; rintro e w' ⟨rfl, n, rfl⟩; rw [uh HX])
    go_end0
    obtain ⟨hg, hn, hmv, hrd⟩ := A.out
    rw [nextP_stop HB.out] at hn
    rw [← hn]
    exact ⟨rfl, hmv.drewN _, hrd.drewN _⟩
set_option maxHeartbeats 400000 in
theorem rblanks_bad (b : Nat) (s : ByteArray) (k : Nat) (far : Bool) (w : World) (hr : RR b s k true far w) :
  Calls Tryz.prog 94 #[.pointer (some ⟨b, 0, none⟩)] w fun e w' => e = .returned (.tuple #[]) ∧ Mv b w w' ∧ RR b s k true far w' := by
 have H := hide hr
 clear hr
 go_enter Tryz.func94, Tryz.ntmps94
 go_wp2_with fail
 go_loopg [] 0 (fun _ wr => wr = w)
 case atStart => rfl
 case round =>
  subst hrel
  go_wp2_with (go_at_call 121; refine (rhere_any _ _ k true far _ (by exact uh H)).mono ?_; rintro e w' ⟨rfl, n, rfl⟩; rw [hv_bad])
  go_end0
  exact ⟨rfl, (Mv.refl _ _).drewN _, (uh H).drewN _⟩
set_option maxHeartbeats 400000 in
theorem rone_yes (b : Nat) (s : ByteArray) (k : Nat) (c : Int) (far : Bool) (w : World) (hr : RR b s k false far w) (hs : s.size ≤ 1000) (hc : 0 < c) (h : inR s k c c = true) :
  Calls Tryz.prog 125 #[.pointer (some ⟨b, 0, none⟩), .int .u8 c] w fun e w' => e = .returned (.tuple #[]) ∧ Mv b w w' ∧ RR b s (nextP s (k + 1)) false far w' := by
 have hlt := inR_lt (by omega) h
 have HX := hide (hv_yes h hc)
 have h1 := hr.at
 have hf := hr.free 1
 have H := hide hr
 clear hr h
 go_enter Tryz.func125, Tryz.ntmps125
 go_wp2_with (go_at_call 121; refine (rhere_any _ _ k false far _ (by exact uh H)).mono ?_; rintro e w' ⟨rfl, n, rfl⟩; rw [uh HX])
 refine (rblanks_ok b s (k + 1) far _ (by rw [show ((k : Int) + 1) = ((k + 1 : Nat) : Int) from by omega]; exact ((uh H).drewN _).setAt (k + 1)) hs (by omega)).mono ?_
 rintro e w2 ⟨rfl, hm, hr2⟩
 have HM := hide (((Mv.refl b w).drewN _).set _ _ |>.trans hm)
 have HR := hide hr2
 clear hm hr2
 go_wp2
 go_end0
 exact ⟨rfl, uh HM, uh HR⟩
set_option maxHeartbeats 400000 in
theorem rone_no (b : Nat) (s : ByteArray) (k : Nat) (c : Int) (bad far : Bool) (w : World) (hr : RR b s k bad far w) (hc : 0 < c) (h : bad = true ∨ inR s k c c = false) :
  Calls Tryz.prog 125 #[.pointer (some ⟨b, 0, none⟩), .int .u8 c] w fun e w' => e = .returned (.tuple #[]) ∧ Mv b w w' ∧ RR b s k true far w' := by
 have hne : (hv s k bad == c) = false := by
  rcases h with rfl | h
  ·rw [hv_bad]; simp; omega
  ·cases bad with
   | true => rw [hv_bad]; simp; omega
   | false => exact hv_ne hc h
 generalize hx : hv s k bad = x at *
 have HX := hide hx
 clear hx h
 have h2 := hr.badC
 have hf := hr.free 2
 have H := hide hr
 clear hr
 go_enter Tryz.func125, Tryz.ntmps125
 go_wp2_with (go_at_call 121; refine (rhere_any _ _ k bad far _ (by exact uh H)).mono ?_; rintro e w' ⟨rfl, n, rfl⟩; rw [uh HX])
 (try simp only [Exit.inBlock, Exit.then]); refine bodyPost_ret (results_none rfl _ _ _) rfl ?_
 exact ⟨rfl, ((Mv.refl b w).drewN _).set _ _, ((uh H).drewN _).setBad true⟩
set_option maxHeartbeats 400000 in
theorem rletter_any (c : Int) (w : World) :
  Calls Tryz.prog 122 #[.int .u8 c] w fun e w' => e = .returned (.bool (isLow c)) ∧ w' = w := by
 by_cases h1 : 97 ≤ c
 ·have h2 : decide (97 ≤ c) = true := by simpa using h1
  go_enter Tryz.func122, Tryz.ntmps122
  go_wp2
  go_ret
  refine ⟨ret_bool ?_, rfl⟩
  simp [isLow, h1]
 ·have h2 : decide (97 ≤ c) = false := by simpa using h1
  go_enter Tryz.func122, Tryz.ntmps122
  go_wp2
  go_ret
  refine ⟨ret_bool ?_, rfl⟩
  have h3 : ¬ 97 ≤ c := by omega
  simp [isLow, h3]
set_option maxHeartbeats 400000 in
theorem rdigit_any (c : Int) (w : World) :
  Calls Tryz.prog 168 #[.int .u8 c] w fun e w' => e = .returned (.bool (isDig c)) ∧ w' = w := by
 by_cases h1 : 48 ≤ c
 ·have h2 : decide (48 ≤ c) = true := by simpa using h1
  go_enter Tryz.func168, Tryz.ntmps168
  go_wp2
  go_ret
  refine ⟨ret_bool ?_, rfl⟩
  simp [isDig, h1]
 ·have h2 : decide (48 ≤ c) = false := by simpa using h1
  go_enter Tryz.func168, Tryz.ntmps168
  go_wp2
  go_ret
  refine ⟨ret_bool ?_, rfl⟩
  have h3 : ¬ 48 ≤ c := by omega
  simp [isDig, h3]
end Go.Proofs.YtdgbmcbkbkbdoaaGreatDoor
namespace Go.Proofs.YtdgbmcbkbkbdoaaGreatDoor
open Go.RowKit
theorem extract_self (s : ByteArray) (k : Nat) : s.extract k k = ByteArray.empty := by
 apply ByteArray.ext
 rw [ByteArray.data_extract]
 simp
 omega
set_option maxHeartbeats 400000 in
theorem rword_ok (b : Nat) (s : ByteArray) (k : Nat) (far : Bool) (w : World) (hr : RR b s k false far w) (hs : s.size ≤ 1000) (hk : k ≤ s.size) :
  Calls Tryz.prog 95 #[.pointer (some ⟨b, 0, none⟩)] w fun e w' => e = .returned (.string (s.extract k (lowEnd s k))) ∧ w' = w := by
 have h0 := hr.text
 have h1 := hr.at
 have h2 := hr.badC
 clear hr
 go_enter Tryz.func95, Tryz.ntmps95
 go_wp2_with fail
 go_loopg [3, 4] (s.size - k) (fun g x i wr => ∃ m, k ≤ m ∧ m ≤ s.size ∧ g = s.size - m ∧ lowEnd s m = lowEnd s k ∧ x = .string (s.extract k m) ∧ i = .int .i64 (m : Int) ∧ wr = w)
 case atStart => exact ⟨k, Nat.le_refl _, hk, rfl, rfl, by rw [extract_self]; rfl, rfl, rfl⟩
 case round =>
  obtain ⟨m, hkm, hm, hg, hn, rfl, rfl, rfl⟩ := hrel
  have A : Aside (gk = s.size - m ∧ lowEnd s m = lowEnd s k) := ⟨hg, hn⟩
  clear hg hn
  by_cases hlt : m < s.size
  case neg =>
   have hd : decide ((m : Int) < s.size) = false := by simp; omega
   have he : lowEnd s k = m := by rw [← A.out.2]; exact skipTo_stop (by rw [byteAt_out (by omega)]; rfl)
   have HE := hide he
   clear he
   go_wp2_with fail
   go_ret
   exact ⟨by rw [uh HE]; rfl, rfl⟩
  have hd : decide ((m : Int) < s.size) = true := by simp; omega
  cases hl : isLow (byteAt s m) with
  | true =>
   have HL : Hid (isLow (s[m].toNat : Int) = true) := hide (by rw [← byteAt_in hlt]; exact hl)
   have HN : Hid (lowEnd s (m + 1) = lowEnd s k) := hide (by rw [← A.out.2]; exact (skipTo_step hlt hl).symm)
   clear hl
   go_wp2_with (go_at_call 122; refine (rletter_any _ _).mono ?_; rintro e w2' ⟨rfl, hw2⟩; rw [uh HL]; subst hw2)
   go_roundg (s.size - (m + 1))
   case measure => obtain ⟨hg, _⟩ := A.out; omega
   case rel => exact ⟨m + 1, by omega, by omega, rfl, uh HN, rfl, by rw [show ((m : Int) + 1) = ((m + 1 : Nat) : Int) from by omega], rfl⟩
  | false =>
   have HL : Hid (isLow (s[m].toNat : Int) = false) := hide (by rw [← byteAt_in hlt]; exact hl)
   have HE : Hid (lowEnd s k = m) := hide (by rw [← A.out.2]; exact skipTo_stop hl)
   clear hl
   go_wp2_with (go_at_call 122; refine (rletter_any _ _).mono ?_; rintro e w2' ⟨rfl, hw2⟩; rw [uh HL]; subst hw2)
   go_ret
   exact ⟨by rw [uh HE]; rfl, rfl⟩
set_option maxHeartbeats 400000 in
theorem rword_bad (b : Nat) (s : ByteArray) (k : Nat) (far : Bool) (w : World) (hr : RR b s k true far w) (_hs : s.size ≤ 1000) :
  Calls Tryz.prog 95 #[.pointer (some ⟨b, 0, none⟩)] w fun e w' => e = .returned (.string ByteArray.empty) ∧ w' = w := by
 have h0 := hr.text
 have h1 := hr.at
 have h2 := hr.badC
 clear hr
 go_enter Tryz.func95, Tryz.ntmps95
 go_wp2_with fail
 go_loopg [3, 4] 0 (fun _ x i wr => x = .string ByteArray.empty ∧ i = .int .i64 (k : Int) ∧ wr = w)
 case atStart => exact ⟨rfl, rfl, rfl⟩
 case round =>
  obtain ⟨rfl, rfl, rfl⟩ := hrel
  by_cases hlt : k < s.size
  ·have hd : decide ((k : Int) < s.size) = true := by simp; omega
   go_wp2_with fail
   go_ret
   exact ⟨rfl, rfl⟩
  ·have hd : decide ((k : Int) < s.size) = false := by simp; omega
   go_wp2_with fail
   go_ret
   exact ⟨rfl, rfl⟩
set_option maxHeartbeats 400000 in
theorem rpass_ok (b : Nat) (s : ByteArray) (k : Nat) (x : ByteArray) (far : Bool) (w : World) (hr : RR b s k false far w) (hs : s.size ≤ 1000) (hk : k + x.size ≤ s.size) :
  Calls Tryz.prog 96 #[.pointer (some ⟨b, 0, none⟩), .string x] w fun e w' => e = .returned (.tuple #[]) ∧ Mv b w w' ∧ RR b s (nextP s (k + x.size)) false far w' := by
 have h1 := hr.at
 have hf := hr.free 1
 have H := hide hr
 clear hr
 go_enter Tryz.func96, Tryz.ntmps96
 go_wp2_with fail
 refine (rblanks_ok b s (k + x.size) far _ (by rw [show ((k : Int) + x.size) = ((k + x.size : Nat) : Int) from by omega]; exact (uh H).setAt (k + x.size)) hs (by omega)).mono ?_
 rintro e w2 ⟨rfl, hm, hr2⟩
 have HM := hide (((Mv.refl b w).set _ _).trans hm)
 have HR := hide hr2
 clear hm hr2
 go_wp2
 go_end0
 exact ⟨rfl, uh HM, uh HR⟩
theorem ext_size {s : ByteArray} {i j : Nat} (h : i ≤ j) (hj : j ≤ s.size) : (s.extract i j).size = j - i := by
 rw [ByteArray.size_extract]; omega
theorem isNameB_no {x : ByteArray} (h : isNameB x = false) : x.toList.isEmpty = true ∨ (x.size : Int) > 8 ∨ (x.toList == [105, 110]) = true ∨ (x.toList == [116, 97, 98, 108, 101]) = true ∨ (x.toList == [110, 111, 110, 101]) = true ∨ (x.toList == [99, 108, 97, 115, 104]) = true := by
 unfold isNameB at h
 simp only [Bool.and_eq_false_iff, Bool.not_eq_false', decide_eq_false_iff_not] at h
 rcases h with ((((h | h) | h) | h) | h) | h
 ·exact .inl h
 ·exact .inr (.inr (.inl h))
 ·exact .inr (.inr (.inr (.inl h)))
 ·exact .inr (.inr (.inr (.inr (.inl h))))
 ·exact .inr (.inr (.inr (.inr (.inr h))))
 ·exact .inr (.inl (by omega))
set_option maxHeartbeats 800000 in
theorem rname_yes (b : Nat) (s : ByteArray) (k : Nat) (far : Bool) (w : World) (hr : RR b s k false far w) (hs : s.size ≤ 1000) (hk : k ≤ s.size) (hb : nextP s k = k) {x : ByteArray} {q : Nat} (h : nameR s k = .inr (x, q)) :
  Calls Tryz.prog 123 #[.pointer (some ⟨b, 0, none⟩)] w fun e w' => e = .returned (.string x) ∧ Mv b w w' ∧ RR b s (nextP s q) false far w' := by
 unfold nameR at h
 rw [hb] at h
 split at h
 case isFalse => cases h
 rename_i hn
 simp only [Sum.inr.injEq, Prod.mk.injEq] at h
 obtain ⟨h1, h2⟩ := h
 have hle := lowEnd_le hk
 have hge := lowEnd_ge s k
 have hsz : k + x.size = q := by rw [← h1, ext_size hge hle]; omega
 rw [h1] at hn
 rw [h2] at hle
 have HE : Hid (s.extract k (lowEnd s k) = x) := h1
 clear h1 h2 hge
 unfold isNameB at hn
 simp only [Bool.and_eq_true, Bool.not_eq_true', decide_eq_true_eq] at hn
 obtain ⟨⟨⟨⟨⟨n0, n1⟩, n2⟩, n3⟩, n4⟩, n5⟩ := hn
 have n6 : decide ((8 : Int) < x.size) = false := by simp; omega
 have H := hide hr
 clear hr
 go_enter Tryz.func123, Tryz.ntmps123
 go_wp2_with (go_at_call 95; refine (rword_ok _ _ k far _ (by exact uh H) hs hk).mono ?_; rintro e w1 ⟨rfl, hw⟩; rw [uh HE]; subst hw)
 refine (rpass_ok b s k x far _ (uh H) hs (by omega)).mono ?_
 rintro e w2 ⟨rfl, hm, hr2⟩
 rw [hsz] at hr2
 have HM := hide hm
 have HR := hide hr2
 clear hm hr2
 go_wp2
 go_ret
 exact ⟨rfl, uh HM, uh HR⟩
set_option maxHeartbeats 800000 in
theorem rname_not (b : Nat) (s : ByteArray) (k : Nat) (bad far : Bool) (x : ByteArray) (w : World) (hr : RR b s k bad far w)
  (hw : Calls Tryz.prog 95 #[.pointer (some ⟨b, 0, none⟩)] w fun e w' => e = .returned (.string x) ∧ w' = w) (h : isNameB x = false) :
  Calls Tryz.prog 123 #[.pointer (some ⟨b, 0, none⟩)] w fun e w' => e = .returned (.string ByteArray.empty) ∧ Mv b w w' ∧ RR b s k true far w' := by
 have h2 := hr.badC
 have hf := hr.free 2
 have H := hide hr
 clear hr
 have HW := hide hw
 clear hw
 have fin : ∀ (w' : World), w' = w.setCell ⟨b, 2, none⟩ (.bool true) → Mv b w w' ∧ RR b s k true far w' := by
  rintro _ rfl
  exact ⟨(Mv.refl b w).set _ _, (uh H).setBad true⟩
 have FIN := hide fin
 clear fin
 cases c0 : x.toList.isEmpty with
 | true =>
  go_enter Tryz.func123, Tryz.ntmps123
  go_wp2_with (go_at_call 95; refine (uh HW).mono ?_; rintro e w1 ⟨rfl, hw⟩; subst hw)
  go_ret
  exact ⟨rfl, uh FIN _ rfl⟩
 | false =>
  by_cases c1 : (8 : Int) < x.size
  ·have c1b : decide ((8 : Int) < x.size) = true := by simpa using c1
   go_enter Tryz.func123, Tryz.ntmps123
   go_wp2_with (go_at_call 95; refine (uh HW).mono ?_; rintro e w1 ⟨rfl, hw⟩; subst hw)
   go_ret
   exact ⟨rfl, uh FIN _ rfl⟩
  ·have c1b : decide ((8 : Int) < x.size) = false := by simpa using c1
   cases c2 : (x.toList == [105, 110]) with
   | true =>
    go_enter Tryz.func123, Tryz.ntmps123
    go_wp2_with (go_at_call 95; refine (uh HW).mono ?_; rintro e w1 ⟨rfl, hw⟩; subst hw)
    go_ret
    exact ⟨rfl, uh FIN _ rfl⟩
   | false =>
    cases c3 : (x.toList == [116, 97, 98, 108, 101]) with
    | true =>
     go_enter Tryz.func123, Tryz.ntmps123
     go_wp2_with (go_at_call 95; refine (uh HW).mono ?_; rintro e w1 ⟨rfl, hw⟩; subst hw)
     go_ret
     exact ⟨rfl, uh FIN _ rfl⟩
    | false =>
     cases c4 : (x.toList == [110, 111, 110, 101]) with
     | true =>
      go_enter Tryz.func123, Tryz.ntmps123
      go_wp2_with (go_at_call 95; refine (uh HW).mono ?_; rintro e w1 ⟨rfl, hw⟩; subst hw)
      go_ret
      exact ⟨rfl, uh FIN _ rfl⟩
     | false =>
      cases c5 : (x.toList == [99, 108, 97, 115, 104]) with
      | true =>
       go_enter Tryz.func123, Tryz.ntmps123
       go_wp2_with (go_at_call 95; refine (uh HW).mono ?_; rintro e w1 ⟨rfl, hw⟩; subst hw)
       go_ret
       exact ⟨rfl, uh FIN _ rfl⟩
      | false =>
       exfalso
       rcases isNameB_no h with h | h | h | h | h | h
       ·rw [c0] at h; cases h
       ·omega
       ·rw [c2] at h; cases h
       ·rw [c3] at h; cases h
       ·rw [c4] at h; cases h
       ·rw [c5] at h; cases h
theorem rname_no (b : Nat) (s : ByteArray) (k : Nat) (far : Bool) (w : World) (hr : RR b s k false far w) (hs : s.size ≤ 1000) (hk : k ≤ s.size) (hb : nextP s k = k) {p : Nat} (h : nameR s k = .inl p) :
  Calls Tryz.prog 123 #[.pointer (some ⟨b, 0, none⟩)] w fun e w' => e = .returned (.string ByteArray.empty) ∧ Mv b w w' ∧ RR b s p true far w' := by
 unfold nameR at h
 rw [hb] at h
 split at h
 case isTrue => cases h
 rename_i hn
 simp only [Sum.inl.injEq] at h
 subst h
 exact rname_not b s k false far _ w hr (rword_ok b s k far w hr hs hk) (by simpa using hn)
theorem isNameB_empty : isNameB ByteArray.empty = false := by
 have h : ByteArray.empty.toList = [] := by first | rfl | decide | simp | (unfold ByteArray.toList ByteArray.toList.loop; rfl)
 simp [isNameB, h]
theorem rname_bad (b : Nat) (s : ByteArray) (k : Nat) (far : Bool) (w : World) (hr : RR b s k true far w) (hs : s.size ≤ 1000) :
  Calls Tryz.prog 123 #[.pointer (some ⟨b, 0, none⟩)] w fun e w' => e = .returned (.string ByteArray.empty) ∧ Mv b w w' ∧ RR b s k true far w' :=
 rname_not b s k true far _ w hr (rword_bad b s k far w hr hs) isNameB_empty
end Go.Proofs.YtdgbmcbkbkbdoaaGreatDoor
