import Derived.Test.YthnggjaecngbiaaDoorRows
import Derived.Test.YthnggjaecngbiaaDoorBase
namespace Go.Proofs.YthnggjaecngbiaaDoor
open Go.RowKit

set_option maxHeartbeats 400000 in
theorem within_any (b : Nat) (s : ByteArray) (k : Nat) (lo hi : Int) (w : World) (hr : Rd 54 b s k w) (hl : 0 ≤ lo) :
    Calls Tryd.prog 40 #[.pointer (some ⟨b, 0, none⟩), .int .u8 lo, .int .u8 hi] w fun e w' => e = .returned (.bool (inR s k lo hi)) ∧ ∃ n, w' = w.drewN n := by
  have h0 := hr.text
  have h1 := hr.at
  clear hr
  by_cases hk : k < s.size
  · have hd : decide ((k : Int) < s.size) = true := by simp; omega
    by_cases h2 : lo ≤ (s[k].toNat : Int)
    · have hd2 : decide (lo ≤ (s[k].toNat : Int)) = true := by simpa using h2
      go_enter Tryd.func40, Tryd.ntmps40
      go_wp2
      go_quiet (fail)
      go_wp2
      go_ret
      exact ⟨ret_bool (inR_hi hk h2).symm, _, rfl⟩
    · have hd2 : decide (lo ≤ (s[k].toNat : Int)) = false := by simpa using h2
      go_enter Tryd.func40, Tryd.ntmps40
      go_wp2
      go_quiet (fail)
      go_wp2
      go_ret
      exact ⟨ret_bool (inR_lo hk (by omega)).symm, _, rfl⟩
  · have hd : decide ((k : Int) < s.size) = false := by simp; omega
    go_enter Tryd.func40, Tryd.ntmps40
    go_wp2
    go_quiet (fail)
    go_wp2
    go_ret
    exact ⟨ret_bool (inR_out (by omega) hl).symm, _, rfl⟩

set_option maxHeartbeats 400000 in
theorem isHere_any (b : Nat) (s : ByteArray) (k : Nat) (c : Int) (w : World) (hr : Rd 54 b s k w) (hl : 0 ≤ c) :
    Calls Tryd.prog 39 #[.pointer (some ⟨b, 0, none⟩), .int .u8 c] w fun e w' => e = .returned (.bool (inR s k c c)) ∧ ∃ n, w' = w.drewN n := by
  have H : Hid (Rd 54 b s k w) := hr
  clear hr
  go_enter Tryd.func39, Tryd.ntmps39
  go_wp2_with (go_at_call 40; refine (within_any _ _ k _ _ _ H.out hl).mono ?_; rintro e w' ⟨rfl, n, rfl⟩)
  go_ret
  exact ⟨rfl, _, rfl⟩

theorem blank_tt {s : ByteArray} {k : Nat} (h : inR s k 32 32 = true) : isBlank (byteAt s k) = true := by
  rw [inR_one] at h; simp at h; unfold isBlank; simp [h]
theorem blank_ft {s : ByteArray} {k : Nat} (h : inR s k 10 10 = true) : isBlank (byteAt s k) = true := by
  rw [inR_one] at h; simp at h; unfold isBlank; simp [h]
theorem blank_ff {s : ByteArray} {k : Nat} (h : inR s k 32 32 = false) (h' : inR s k 10 10 = false) : isBlank (byteAt s k) = false := by
  rw [inR_one] at h h'; simp at h h'; unfold isBlank; simp [h, h']

set_option maxHeartbeats 400000 in
theorem next_any (b : Nat) (s : ByteArray) (k : Nat) (w : World) (hr : Rd 54 b s k w) (hs : s.size ≤ 1000) (hk : k ≤ s.size) :
    Calls Tryd.prog 27 #[.pointer (some ⟨b, 0, none⟩)] w fun e w' => e = .returned (.int .i64 (nextP s k)) ∧ Moved 54 b s (nextP s k) w w' := by
  go_enter Tryd.func27, Tryd.ntmps27
  go_wp2_with fail
  go_loopg [] (s.size - k) (fun g wr => ∃ m, m ≤ s.size ∧ g = s.size - m ∧ nextP s m = nextP s k ∧ Moved 54 b s m w wr)
  case atStart => exact ⟨k, hk, rfl, rfl, Moved.refl hr⟩
  case round =>
    obtain ⟨m, hm, hg, hn, hmv⟩ := hrel
    clear hr
    have A : Aside (gk = s.size - m ∧ nextP s m = nextP s k ∧ Moved 54 b s m w wr) := ⟨hg, hn, hmv⟩
    clear hg hn
    have hrd := hmv.rd
    clear hmv
    have h1 := hrd.at
    have hf := hrd.free
    have H : Hid (Rd 54 b s m wr) := hrd
    clear hrd
    cases h32 : inR s m 32 32 with
    | true =>
      have hlt := inR_lt (by omega) h32
      have hb := blank_tt h32
      have HB : Hid (isBlank (byteAt s m) = true) := hb
      have H32 : Hid (inR s m 32 32 = true) := h32
      clear hb h32
      go_wp2_with (go_at_call 39; refine (isHere_any _ _ m _ _ (by exact H.out) (by omega)).mono ?_; rintro e w' ⟨rfl, n, rfl⟩; rw [H32.out])
      go_roundg (s.size - (m + 1))
      case measure => obtain ⟨hg, _⟩ := A.out; omega
      case rel =>
        obtain ⟨hg, hn, hmv⟩ := A.out
        refine ⟨m + 1, by omega, rfl, by rw [← hn, nextP_step hlt HB.out], ?_⟩
        rw [show ((m : Int) + 1) = ((m + 1 : Nat) : Int) from by omega]
        exact (hmv.drewN _).set (m + 1)
    | false =>
      cases h10 : inR s m 10 10 with
      | true =>
        have hlt := inR_lt (by omega) h10
        have HB : Hid (isBlank (byteAt s m) = true) := blank_ft h10
        have H32 : Hid (inR s m 32 32 = false) := h32
        have H10 : Hid (inR s m 10 10 = true) := h10
        clear h10 h32
        go_wp2_with (go_at_call 39; refine (isHere_any _ _ m _ _ (by exact H.out) (by omega)).mono ?_; rintro e w' ⟨rfl, n, rfl⟩; first | rw [H32.out] | rw [H10.out])
        go_roundg (s.size - (m + 1))
        case measure => obtain ⟨hg, _⟩ := A.out; omega
        case rel =>
          obtain ⟨hg, hn, hmv⟩ := A.out
          refine ⟨m + 1, by omega, rfl, by rw [← hn, nextP_step hlt HB.out], ?_⟩
          rw [show ((m : Int) + 1) = ((m + 1 : Nat) : Int) from by omega]
          exact (hmv.drewN _).set (m + 1)
      | false =>
        have HB : Hid (isBlank (byteAt s m) = false) := blank_ff h32 h10
        have H32 : Hid (inR s m 32 32 = false) := h32
        have H10 : Hid (inR s m 10 10 = false) := h10
        clear h10 h32
        go_wp2_with (go_at_call 39; refine (isHere_any _ _ m _ _ (by exact H.out) (by omega)).mono ?_; rintro e w' ⟨rfl, n, rfl⟩; first | rw [H32.out] | rw [H10.out])
        obtain ⟨hg, hn, hmv⟩ := A.out
        rw [nextP_stop HB.out] at hn
        go_ret
        rw [← hn]
        exact ⟨rfl, hmv.drewN _⟩

set_option maxHeartbeats 400000 in
theorem takeHere_yes (b : Nat) (s : ByteArray) (k : Nat) (c : Int) (w : World) (hr : Rd 54 b s k w) (hs : s.size ≤ 1000) (hl : 0 ≤ c) (h : inR s k c c = true) :
    Calls Tryd.prog 59 #[.pointer (some ⟨b, 0, none⟩), .int .u8 c] w fun e w' => e = .returned (.bool true) ∧ Moved 54 b s (k + 1) w w' := by
  have hlt := inR_lt hl h
  have h1 := hr.at
  have hf := hr.free
  have H : Hid (Rd 54 b s k w) := hr
  have HI : Hid (inR s k c c = true) := h
  clear hr h
  go_enter Tryd.func59, Tryd.ntmps59
  go_wp2_with (go_at_call 39; refine (isHere_any _ _ k _ _ (by exact H.out) hl).mono ?_; rintro e w' ⟨rfl, n, rfl⟩; rw [HI.out])
  go_ret
  refine ⟨rfl, ?_⟩
  rw [show ((k : Int) + 1) = ((k + 1 : Nat) : Int) from by omega]
  exact ((Moved.refl H.out).drewN _).set (k + 1)

set_option maxHeartbeats 400000 in
theorem takeHere_no (b : Nat) (s : ByteArray) (k : Nat) (c : Int) (w : World) (hr : Rd 54 b s k w) (hl : 0 ≤ c) (h : inR s k c c = false) :
    Calls Tryd.prog 59 #[.pointer (some ⟨b, 0, none⟩), .int .u8 c] w fun e w' => e = .returned (.bool false) ∧ Moved 54 b s k w w' := by
  have H : Hid (Rd 54 b s k w) := hr
  have HI : Hid (inR s k c c = false) := h
  clear hr h
  go_enter Tryd.func59, Tryd.ntmps59
  go_wp2_with (go_at_call 39; refine (isHere_any _ _ k _ _ (by exact H.out) hl).mono ?_; rintro e w' ⟨rfl, n, rfl⟩; rw [HI.out])
  go_ret
  exact ⟨rfl, (Moved.refl H.out).drewN _⟩

set_option maxHeartbeats 400000 in
theorem take_yes (b : Nat) (s : ByteArray) (k : Nat) (c : Int) (w : World) (hr : Rd 54 b s k w) (hs : s.size ≤ 1000) (hk : k ≤ s.size) (hl : 0 ≤ c) (h : inR s (nextP s k) c c = true) :
    Calls Tryd.prog 42 #[.pointer (some ⟨b, 0, none⟩), .int .u8 c] w fun e w' => e = .returned (.bool true) ∧ Moved 54 b s (nextP s k + 1) w w' := by
  have H : Hid (Rd 54 b s k w) := hr
  have HI : Hid (inR s (nextP s k) c c = true) := h
  clear hr h
  go_enter Tryd.func42, Tryd.ntmps42
  go_wp2_with (go_at_call 27; refine (next_any _ _ k _ (by exact H.out) hs hk).mono ?_; rintro e w' ⟨rfl, hm1⟩)
  refine (takeHere_yes _ _ _ _ _ hm1.rd hs hl HI.out).mono ?_
  rintro e w'' ⟨rfl, hm2⟩
  have HM : Hid (Moved 54 b s (nextP s k + 1) w w'') := hm1.trans hm2
  clear hm1 hm2
  go_wp2
  go_ret
  exact ⟨rfl, HM.out⟩

set_option maxHeartbeats 400000 in
theorem take_no (b : Nat) (s : ByteArray) (k : Nat) (c : Int) (w : World) (hr : Rd 54 b s k w) (hs : s.size ≤ 1000) (hk : k ≤ s.size) (hl : 0 ≤ c) (h : inR s (nextP s k) c c = false) :
    Calls Tryd.prog 42 #[.pointer (some ⟨b, 0, none⟩), .int .u8 c] w fun e w' => e = .returned (.bool false) ∧ Moved 54 b s (nextP s k) w w' := by
  have H : Hid (Rd 54 b s k w) := hr
  have HI : Hid (inR s (nextP s k) c c = false) := h
  clear hr h
  go_enter Tryd.func42, Tryd.ntmps42
  go_wp2_with (go_at_call 27; refine (next_any _ _ k _ (by exact H.out) hs hk).mono ?_; rintro e w' ⟨rfl, hm1⟩)
  refine (takeHere_no _ _ _ _ _ hm1.rd hl HI.out).mono ?_
  rintro e w'' ⟨rfl, hm2⟩
  have HM : Hid (Moved 54 b s (nextP s k) w w'') := hm1.trans hm2
  clear hm1 hm2
  go_wp2
  go_ret
  exact ⟨rfl, HM.out⟩

set_option maxHeartbeats 400000 in
theorem mustHere_yes (b : Nat) (s : ByteArray) (k : Nat) (c : Int) (w : World) (hr : Rd 54 b s k w) (hs : s.size ≤ 1000) (hl : 0 ≤ c) (h : inR s k c c = true) :
    Calls Tryd.prog 60 #[.pointer (some ⟨b, 0, none⟩), .int .u8 c] w fun e w' => e = .returned (.tuple #[]) ∧ Moved 54 b s (k + 1) w w' := by
  have H : Hid (Rd 54 b s k w) := hr
  have HI : Hid (inR s k c c = true) := h
  clear hr h
  go_enter Tryd.func60, Tryd.ntmps60
  go_wp2_with (go_at_call 59; refine (takeHere_yes _ _ k _ _ (by exact H.out) hs hl HI.out).mono ?_; rintro e w' ⟨rfl, hm⟩; have HM := hide hm; clear hm)
  go_end0
  exact ⟨rfl, unhide HM⟩

set_option maxHeartbeats 400000 in
theorem mustHere_no (b : Nat) (s : ByteArray) (k : Nat) (c : Int) (w : World) (hr : Rd 54 b s k w) (hl : 0 ≤ c) (h : inR s k c c = false) :
    Calls Tryd.prog 60 #[.pointer (some ⟨b, 0, none⟩), .int .u8 c] w fun e w' => e = .panicked [{ v := .iface 36 (.agg #[.int .i64 (k : Int)]), recovered := false }] ∧ Moved 54 b s k w w' := by
  have H : Hid (Rd 54 b s k w) := hr
  have HI : Hid (inR s k c c = false) := h
  clear hr h
  go_enter Tryd.func60, Tryd.ntmps60
  go_wp2_with (go_at_call 59; refine (takeHere_no _ _ k _ _ (by exact H.out) hl HI.out).mono ?_; rintro e w' ⟨rfl, hm⟩; have h1 := hm.rd.at; have HM := hide hm; clear hm)
  exact ⟨rfl, rfl, unhide HM⟩

end Go.Proofs.YthnggjaecngbiaaDoor
