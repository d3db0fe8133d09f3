import Derived.Test.YthnggjaecngbiaaGreatDoorBase
import Derived.Test.YthnggjaecngbiaaGreatDoorShelf
namespace Go.Proofs.YthnggjaecngbiaaGreatDoor
open Go.RowKit

set_option maxHeartbeats 400000 in
theorem must_yes (b : Nat) (s : ByteArray) (k : Nat) (c : Int) (w : World) (hr : Rd 152 b s k w) (hs : s.size ≤ 1000) (hk : k ≤ s.size) (hl : 0 ≤ c) (h : inR s (nextP s k) c c = true) :
    Calls Tryz.prog 151 #[.pointer (some ⟨b, 0, none⟩), .int .u8 c] w fun e w' => e = .returned (.tuple #[]) ∧ Moved 152 b s (nextP s k + 1) w w' := by
  have H := hide hr
  have HI := hide h
  clear hr h
  go_enter Tryz.func151, Tryz.ntmps151
  go_wp2_with (first | (go_at_call 120; refine (next_any _ _ k _ (by exact unhide H) hs hk).mono ?_; rintro e w' ⟨rfl, hm1⟩; have HM := hide hm1; clear hm1) | (go_at_call 175; refine (mustHere_yes _ _ _ _ _ (unhide HM).rd hs hl (unhide HI)).mono ?_; rintro e w'' ⟨rfl, hm2⟩; have HN := hide ((unhide HM).trans hm2); clear hm2 HM))
  go_end0
  exact ⟨rfl, unhide HN⟩

set_option maxHeartbeats 400000 in
theorem must_no (b : Nat) (s : ByteArray) (k : Nat) (c : Int) (w : World) (hr : Rd 152 b s k w) (hs : s.size ≤ 1000) (hk : k ≤ s.size) (hl : 0 ≤ c) (h : inR s (nextP s k) c c = false) :
    Calls Tryz.prog 151 #[.pointer (some ⟨b, 0, none⟩), .int .u8 c] w fun e w' => e = .panicked [{ v := .iface 110 (.agg #[.int .i64 (nextP s k : Int)]), recovered := false }] ∧ Moved 152 b s (nextP s k) w w' := by
  have H := hide hr
  have HI := hide h
  clear hr h
  go_enter Tryz.func151, Tryz.ntmps151
  go_wp2_with (first | (go_at_call 120; refine (next_any _ _ k _ (by exact unhide H) hs hk).mono ?_; rintro e w' ⟨rfl, hm1⟩; have HM := hide hm1; clear hm1) | (go_at_call 175; refine (mustHere_no _ _ _ _ _ (unhide HM).rd hl (unhide HI)).mono ?_; rintro e w'' ⟨rfl, hm2⟩; have HN := hide ((unhide HM).trans hm2); clear hm2 HM))
  exact ⟨rfl, rfl, unhide HN⟩

set_option maxHeartbeats 400000 in
theorem word_any (b : Nat) (s : ByteArray) (k : Nat) (w : World) (hr : Rd 152 b s k w) (hs : s.size ≤ 1000) (hk : k ≤ s.size) :
    Calls Tryz.prog 121 #[.pointer (some ⟨b, 0, none⟩)] w fun e w' => e = .returned (.string (s.extract (nextP s k) (lowEnd s (nextP s k)))) ∧ Moved 152 b s (lowEnd s (nextP s k)) w w' := by
  have H := hide hr
  clear hr
  go_enter Tryz.func121, Tryz.ntmps121
  go_wp2_with (go_at_call 120; refine (next_any _ _ k _ (by exact unhide H) hs hk).mono ?_; rintro e w' ⟨rfl, hm1⟩; have HM := hide hm1; clear hm1)
  have hp := nextP_le hk
  generalize hP : nextP s k = p at *
  have HP := hide hP
  clear hP
  go_loopg [] (s.size - p) (fun g wr => ∃ m, p ≤ m ∧ m ≤ s.size ∧ g = s.size - m ∧ lowEnd s m = lowEnd s p ∧ Moved 152 b s m w wr)
  case atStart => exact ⟨p, Nat.le_refl _, hp, rfl, rfl, unhide HM⟩
  case round =>
    obtain ⟨m, hpm, hm, hg, hn, hmv⟩ := hrel
    clear HM H
    have h0 := hmv.rd.text
    have h1 := hmv.rd.at
    have hf := hmv.rd.free
    have A : Aside (gk = s.size - m ∧ lowEnd s m = lowEnd s p ∧ Moved 152 b s m w wr) := ⟨hg, hn, hmv⟩
    clear hg hn hmv
    cases h32 : inR s m 97 122 with
    | true =>
      have hlt := inR_lt (by omega) h32
      have HB := hide h32
      clear h32
      go_wp2_with (go_at_call 147; refine (within_any _ _ m _ _ _ (by exact A.out.2.2.rd) (by omega)).mono ?_; rintro e w' ⟨rfl, n, rfl⟩; rw [unhide HB])
      go_roundg (s.size - (m + 1))
      case measure => obtain ⟨hg, _⟩ := A.out; omega
      case rel =>
        obtain ⟨hg, hn, hmv⟩ := A.out
        refine ⟨m + 1, by omega, by omega, rfl, by rw [← hn]; exact (skipTo_step hlt (unhide HB)).symm, ?_⟩
        rw [show ((m : Int) + 1) = ((m + 1 : Nat) : Int) from by omega]
        exact (hmv.drewN _).set (m + 1)
    | false =>
      have HB := hide h32
      clear h32
      go_wp2_with (go_at_call 147; refine (within_any _ _ m _ _ _ (by exact A.out.2.2.rd) (by omega)).mono ?_; rintro e w' ⟨rfl, n, rfl⟩; rw [unhide HB])
      go_quiet (fail)
      go_wp2
      obtain ⟨hg, hn, hmv⟩ := A.out
      have he : lowEnd s p = m := by rw [← hn]; exact skipTo_stop (unhide HB)
      go_ret
      rw [unhide HP, he]
      exact ⟨rfl, (hmv.drewN _).drewN _⟩

set_option maxHeartbeats 400000 in
theorem isName_any (x : ByteArray) (w : World) (_hx : x.size ≤ 1000) :
    Calls Tryz.prog 172 #[.string x] w fun e w' => e = .returned (.bool (isNameB x)) ∧ w' = w := by
  cases h0 : x.toList.isEmpty
  case true =>
    go_enter Tryz.func172, Tryz.ntmps172
    go_wp2
    go_ret
    exact ⟨by simp [isNameB, h0], rfl⟩
  cases h1 : (x.toList == [105, 110])
  case true =>
    go_enter Tryz.func172, Tryz.ntmps172
    go_wp2
    go_ret
    exact ⟨by simp [isNameB, h1], rfl⟩
  cases h2 : (x.toList == [116, 97, 98, 108, 101])
  case true =>
    go_enter Tryz.func172, Tryz.ntmps172
    go_wp2
    go_ret
    exact ⟨by simp [isNameB, h2], rfl⟩
  cases h3 : (x.toList == [110, 111, 110, 101])
  case true =>
    go_enter Tryz.func172, Tryz.ntmps172
    go_wp2
    go_ret
    exact ⟨by simp [isNameB, h3], rfl⟩
  cases h4 : (x.toList == [99, 108, 97, 115, 104])
  case true =>
    go_enter Tryz.func172, Tryz.ntmps172
    go_wp2
    go_ret
    exact ⟨by simp [isNameB, h4], rfl⟩
  go_enter Tryz.func172, Tryz.ntmps172
  go_wp2
  go_ret
  refine ⟨ret_bool ?_, rfl⟩
  simp only [isNameB, h0, h1, h2, h3, h4]
  rfl

set_option maxHeartbeats 400000 in
theorem ended_any (b : Nat) (s : ByteArray) (k : Nat) (w : World) (hr : Rd 152 b s k w) (hs : s.size ≤ 1000) (hk : k ≤ s.size) :
    Calls Tryz.prog 89 #[.pointer (some ⟨b, 0, none⟩)] w fun e w' => e = .returned (.bool (decide (nextP s k = s.size))) ∧ Moved 152 b s (nextP s k) w w' := by
  have h0 := hr.text
  have H := hide hr
  clear hr
  go_enter Tryz.func89, Tryz.ntmps89
  go_wp2
  go_region_with (go_at_call 120; refine (next_any _ _ k _ (by exact unhide H) hs hk).mono ?_; rintro e w' ⟨rfl, hm1⟩; have h0 := hm1.rd.text; have HM := hide hm1; clear hm1)
  all_goals
    go_wp2
    go_ret
    refine ⟨ret_bool ?_, by first | exact (unhide HM).of_drew | exact (unhide HM)⟩
    rw [Bool.eq_iff_iff]
    simp
    omega

set_option maxHeartbeats 400000 in
theorem clone_any (x : ByteArray) (w : World) (hx : x.size ≤ 1000) :
    Calls Tryz.prog 173 #[.string x] w fun e w' => e = .returned (.string x) ∧ Below w.heap.size w w' := by
  go_enter Tryz.func173, Tryz.ntmps173
  go_wp2_with (go_at_call 193; refine (Tryz.stringslite_Clone _ _ (by omega)).mono ?_; rintro e w3 ⟨rfl, hb⟩; have HB := hide hb; clear hb)
  go_ret
  exact ⟨rfl, unhide HB⟩

set_option maxHeartbeats 400000 in
theorem name_yes (b : Nat) (s : ByteArray) (k : Nat) (w : World) (hr : Rd 152 b s k w) (hs : s.size ≤ 1000) (hk : k ≤ s.size) {x : ByteArray} {q : Nat} (h : nameR s k = .inr (x, q)) :
    Calls Tryz.prog 148 #[.pointer (some ⟨b, 0, none⟩)] w fun e w' => e = .returned (.string x) ∧ Moved 152 b s q w w' := by
  unfold nameR at h
  split at h
  case isFalse => cases h
  rename_i hn
  simp only [Sum.inr.injEq, Prod.mk.injEq] at h
  obtain ⟨h1, h2⟩ := h
  have hp := nextP_le hk
  have hge := nextP_ge s k
  have hq := lowEnd_le hp
  have hx := extract_le s (nextP s k) _ hq
  have HE : Hid (s.extract (nextP s k) (lowEnd s (nextP s k)) = x ∧ lowEnd s (nextP s k) = q ∧ isNameB (s.extract (nextP s k) (lowEnd s (nextP s k))) = true) := ⟨h1, h2, hn⟩
  have hsz : x.size ≤ 1000 := by rw [← h1]; omega
  clear h1 h2 hn hx hq
  have H := hide hr
  clear hr
  go_enter Tryz.func148, Tryz.ntmps148
  go_wp2_with (go_at_call 120; refine (next_any _ _ k _ (by exact unhide H) hs hk).mono ?_; rintro e w1 ⟨rfl, hm1⟩; have HM := hide hm1; clear hm1)
  refine (word_any _ _ _ _ (unhide HM).rd hs hp).mono ?_
  rintro e w2 ⟨rfl, hm2⟩
  have hpp : nextP s (nextP s k) = nextP s k := nextP_idem hk
  rw [hpp] at hm2
  rw [hpp, HE.out.1]
  have HN := hide ((unhide HM).trans hm2)
  clear hm2 HM hpp
  go_wp2_with (go_at_call 172; refine (isName_any _ _ hsz).mono ?_; rintro e w3 ⟨rfl, rfl⟩; rw [show isNameB x = true from by rw [← HE.out.1]; exact HE.out.2.2])
  refine (clone_any _ _ hsz).mono ?_
  rintro e w4 ⟨rfl, hb⟩
  have HB := hide hb
  clear hb
  go_wp2
  go_ret
  refine ⟨rfl, ?_⟩
  rw [← HE.out.2.1]
  exact (unhide HN).below (unhide HB)

set_option maxHeartbeats 400000 in
theorem name_no (b : Nat) (s : ByteArray) (k : Nat) (w : World) (hr : Rd 152 b s k w) (hs : s.size ≤ 1000) (hk : k ≤ s.size) {p : Nat} (h : nameR s k = .inl p) :
    Calls Tryz.prog 148 #[.pointer (some ⟨b, 0, none⟩)] w fun e w' => e = .panicked [{ v := .iface 110 (.agg #[.int .i64 (p : Int)]), recovered := false }] ∧ ∃ m, Moved 152 b s m w w' := by
  unfold nameR at h
  split at h
  case isTrue => cases h
  rename_i hn
  simp only [Sum.inl.injEq] at h
  have hp := nextP_le hk
  have hq := lowEnd_le hp
  have hx := extract_le s (nextP s k) _ hq
  have hsz : (s.extract (nextP s k) (lowEnd s (nextP s k))).size ≤ 1000 := by omega
  have HE : Hid (nextP s k = p ∧ isNameB (s.extract (nextP s k) (lowEnd s (nextP s k))) = false) := ⟨h, by simpa using hn⟩
  clear h hn hx hq
  have H := hide hr
  clear hr
  go_enter Tryz.func148, Tryz.ntmps148
  go_wp2_with (go_at_call 120; refine (next_any _ _ k _ (by exact unhide H) hs hk).mono ?_; rintro e w1 ⟨rfl, hm1⟩; have HM := hide hm1; clear hm1)
  refine (word_any _ _ _ _ (unhide HM).rd hs hp).mono ?_
  rintro e w2 ⟨rfl, hm2⟩
  have hpp : nextP s (nextP s k) = nextP s k := nextP_idem hk
  rw [hpp] at hm2
  rw [hpp]
  have HN := hide ((unhide HM).trans hm2)
  clear hm2 HM hpp
  go_wp2_with (go_at_call 172; refine (isName_any _ _ hsz).mono ?_; rintro e w3 ⟨rfl, rfl⟩; rw [HE.out.2])
  rw [HE.out.1]
  exact ⟨rfl, rfl, _, unhide HN⟩

end Go.Proofs.YthnggjaecngbiaaGreatDoor
