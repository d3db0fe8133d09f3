import Derived.Test.YthnggjaecngbiaaGreatDoorRfB
namespace Go.Proofs.YthnggjaecngbiaaGreatDoor
open Go.RowKit
theorem extract_self (s : ByteArray) (k : Nat) : s.extract k k = ByteArray.empty := by
 apply ByteArray.ext
 rw [ByteArray.data_extract]
 simp
 omega
set_option maxHeartbeats 400000 in
theorem rword_ok (b : Nat) (s : ByteArray) (k : Nat) (far : Bool) (w : World) (hr : RR b s k false far w) (hs : s.size ≤ 1000) (hk : k ≤ s.size) :
  Calls Tryz.prog 107 #[.pointer (some ⟨b, 0, none⟩)] w fun e w' => e = .returned (.string (s.extract k (lowEnd s k))) ∧ w' = w := by
 have h0 := hr.text
 have h1 := hr.at
 have h2 := hr.badC
 clear hr
 go_enter Tryz.func107, Tryz.ntmps107
 go_wp2_with fail
 go_loopg [3, 4] (s.size - k) (fun g x i wr => ∃ m, k ≤ m ∧ m ≤ s.size ∧ g = s.size - m ∧ lowEnd s m = lowEnd s k ∧ x = .string (s.extract k m) ∧ i = .int .i64 (m : Int) ∧ wr = w)
 case atStart => exact ⟨k, Nat.le_refl _, hk, rfl, rfl, by rw [extract_self]; rfl, rfl, rfl⟩
 case round =>
  obtain ⟨m, hkm, hm, hg, hn, rfl, rfl, rfl⟩ := hrel
  have A : Aside (gk = s.size - m ∧ lowEnd s m = lowEnd s k) := ⟨hg, hn⟩
  clear hg hn
  by_cases hlt : m < s.size
  case neg =>
   have hd : decide ((m : Int) < s.size) = false := by simp; omega
   have he : lowEnd s k = m := by rw [← A.out.2]; exact skipTo_stop (by rw [byteAt_out (by omega)]; rfl)
   have HE := hide he
   clear he
   go_wp2_with fail
   go_ret
   exact ⟨by rw [uh HE]; rfl, rfl⟩
  have hd : decide ((m : Int) < s.size) = true := by simp; omega
  cases hl : isLow (byteAt s m) with
  | true =>
   have HL : Hid (isLow (s[m].toNat : Int) = true) := hide (by rw [← byteAt_in hlt]; exact hl)
   have HN : Hid (lowEnd s (m + 1) = lowEnd s k) := hide (by rw [← A.out.2]; exact (skipTo_step hlt hl).symm)
   clear hl
   go_wp2_with (go_at_call 138; refine (rletter_any _ _).mono ?_; rintro e w2' ⟨rfl, hw2⟩; rw [uh HL]; subst hw2)
   go_roundg (s.size - (m + 1))
   case measure => obtain ⟨hg, _⟩ := A.out; omega
   case rel => exact ⟨m + 1, by omega, by omega, rfl, uh HN, rfl, by rw [show ((m : Int) + 1) = ((m + 1 : Nat) : Int) from by omega], rfl⟩
  | false =>
   have HL : Hid (isLow (s[m].toNat : Int) = false) := hide (by rw [← byteAt_in hlt]; exact hl)
   have HE : Hid (lowEnd s k = m) := hide (by rw [← A.out.2]; exact skipTo_stop hl)
   clear hl
   go_wp2_with (go_at_call 138; refine (rletter_any _ _).mono ?_; rintro e w2' ⟨rfl, hw2⟩; rw [uh HL]; subst hw2)
   go_ret
   exact ⟨by rw [uh HE]; rfl, rfl⟩
set_option maxHeartbeats 400000 in
theorem rword_bad (b : Nat) (s : ByteArray) (k : Nat) (far : Bool) (w : World) (hr : RR b s k true far w) (_hs : s.size ≤ 1000) :
  Calls Tryz.prog 107 #[.pointer (some ⟨b, 0, none⟩)] w fun e w' => e = .returned (.string ByteArray.empty) ∧ w' = w := by
 have h0 := hr.text
 have h1 := hr.at
 have h2 := hr.badC
 clear hr
 go_enter Tryz.func107, Tryz.ntmps107
 go_wp2_with fail
 go_loopg [3, 4] 0 (fun _ x i wr => x = .string ByteArray.empty ∧ i = .int .i64 (k : Int) ∧ wr = w)
 case atStart => exact ⟨rfl, rfl, rfl⟩
 case round =>
  obtain ⟨rfl, rfl, rfl⟩ := hrel
  by_cases hlt : k < s.size
  ·have hd : decide ((k : Int) < s.size) = true := by simp; omega
   go_wp2_with fail
   go_ret
   exact ⟨rfl, rfl⟩
  ·have hd : decide ((k : Int) < s.size) = false := by simp; omega
   go_wp2_with fail
   go_ret
   exact ⟨rfl, rfl⟩
set_option maxHeartbeats 400000 in
theorem rpass_ok (b : Nat) (s : ByteArray) (k : Nat) (x : ByteArray) (far : Bool) (w : World) (hr : RR b s k false far w) (hs : s.size ≤ 1000) (hk : k + x.size ≤ s.size) :
  Calls Tryz.prog 108 #[.pointer (some ⟨b, 0, none⟩), .string x] w fun e w' => e = .returned (.tuple #[]) ∧ Mv b w w' ∧ RR b s (nextP s (k + x.size)) false far w' := by
 have h1 := hr.at
 have hf := hr.free 1
 have H := hide hr
 clear hr
 go_enter Tryz.func108, Tryz.ntmps108
 go_wp2_with fail
 refine (rblanks_ok b s (k + x.size) far _ (by rw [show ((k : Int) + x.size) = ((k + x.size : Nat) : Int) from by omega]; exact (uh H).setAt (k + x.size)) hs (by omega)).mono ?_
 rintro e w2 ⟨rfl, hm, hr2⟩
 have HM := hide (((Mv.refl b w).set _ _).trans hm)
 have HR := hide hr2
 clear hm hr2
 go_wp2
 go_end0
 exact ⟨rfl, uh HM, uh HR⟩
theorem ext_size {s : ByteArray} {i j : Nat} (h : i ≤ j) (hj : j ≤ s.size) : (s.extract i j).size = j - i := by
 rw [ByteArray.size_extract]; omega
theorem isNameB_no {x : ByteArray} (h : isNameB x = false) : x.toList.isEmpty = true ∨ (x.size : Int) > 8 ∨ (x.toList == [105, 110]) = true ∨ (x.toList == [116, 97, 98, 108, 101]) = true ∨ (x.toList == [110, 111, 110, 101]) = true ∨ (x.toList == [99, 108, 97, 115, 104]) = true := by
 unfold isNameB at h
 simp only [Bool.and_eq_false_iff, Bool.not_eq_false', decide_eq_false_iff_not] at h
 rcases h with ((((h | h) | h) | h) | h) | h
 ·exact .inl h
 ·exact .inr (.inr (.inl h))
 ·exact .inr (.inr (.inr (.inl h)))
 ·exact .inr (.inr (.inr (.inr (.inl h))))
 ·exact .inr (.inr (.inr (.inr (.inr h))))
 ·exact .inr (.inl (by omega))
set_option maxHeartbeats 800000 in
theorem rname_yes (b : Nat) (s : ByteArray) (k : Nat) (far : Bool) (w : World) (hr : RR b s k false far w) (hs : s.size ≤ 1000) (hk : k ≤ s.size) (hb : nextP s k = k) {x : ByteArray} {q : Nat} (h : nameR s k = .inr (x, q)) :
  Calls Tryz.prog 139 #[.pointer (some ⟨b, 0, none⟩)] w fun e w' => e = .returned (.string x) ∧ Mv b w w' ∧ RR b s (nextP s q) false far w' := by
 unfold nameR at h
 rw [hb] at h
 split at h
 case isFalse => cases h
 rename_i hn
 simp only [Sum.inr.injEq, Prod.mk.injEq] at h
 obtain ⟨h1, h2⟩ := h
 have hle := lowEnd_le hk
 have hge := lowEnd_ge s k
 have hsz : k + x.size = q := by rw [← h1, ext_size hge hle]; omega
 rw [h1] at hn
 rw [h2] at hle
 have HE : Hid (s.extract k (lowEnd s k) = x) := h1
 clear h1 h2 hge
 unfold isNameB at hn
 simp only [Bool.and_eq_true, Bool.not_eq_true', decide_eq_true_eq] at hn
 obtain ⟨⟨⟨⟨⟨n0, n1⟩, n2⟩, n3⟩, n4⟩, n5⟩ := hn
 have n6 : decide ((8 : Int) < x.size) = false := by simp; omega
 have H := hide hr
 clear hr
 go_enter Tryz.func139, Tryz.ntmps139
 go_wp2_with (go_at_call 107; refine (rword_ok _ _ k far _ (by exact uh H) hs hk).mono ?_; rintro e w1 ⟨rfl, hw⟩; rw [uh HE]; subst hw)
 refine (rpass_ok b s k x far _ (uh H) hs (by omega)).mono ?_
 rintro e w2 ⟨rfl, hm, hr2⟩
 rw [hsz] at hr2
 have HM := hide hm
 have HR := hide hr2
 clear hm hr2
 go_wp2
 go_ret
 exact ⟨rfl, uh HM, uh HR⟩
set_option maxHeartbeats 800000 in
theorem rname_not (b : Nat) (s : ByteArray) (k : Nat) (bad far : Bool) (x : ByteArray) (w : World) (hr : RR b s k bad far w)
  (hw : Calls Tryz.prog 107 #[.pointer (some ⟨b, 0, none⟩)] w fun e w' => e = .returned (.string x) ∧ w' = w) (h : isNameB x = false) :
  Calls Tryz.prog 139 #[.pointer (some ⟨b, 0, none⟩)] w fun e w' => e = .returned (.string ByteArray.empty) ∧ Mv b w w' ∧ RR b s k true far w' := by
 have h2 := hr.badC
 have hf := hr.free 2
 have H := hide hr
 clear hr
 have HW := hide hw
 clear hw
 have fin : ∀ (w' : World), w' = w.setCell ⟨b, 2, none⟩ (.bool true) → Mv b w w' ∧ RR b s k true far w' := by
  rintro _ rfl
  exact ⟨(Mv.refl b w).set _ _, (uh H).setBad true⟩
 have FIN := hide fin
 clear fin
 cases c0 : x.toList.isEmpty with
 | true =>
  go_enter Tryz.func139, Tryz.ntmps139
  go_wp2_with (go_at_call 107; refine (uh HW).mono ?_; rintro e w1 ⟨rfl, hw⟩; subst hw)
  go_ret
  exact ⟨rfl, uh FIN _ rfl⟩
 | false =>
  by_cases c1 : (8 : Int) < x.size
  ·have c1b : decide ((8 : Int) < x.size) = true := by simpa using c1
   go_enter Tryz.func139, Tryz.ntmps139
   go_wp2_with (go_at_call 107; refine (uh HW).mono ?_; rintro e w1 ⟨rfl, hw⟩; subst hw)
   go_ret
   exact ⟨rfl, uh FIN _ rfl⟩
  ·have c1b : decide ((8 : Int) < x.size) = false := by simpa using c1
   cases c2 : (x.toList == [105, 110]) with
   | true =>
    go_enter Tryz.func139, Tryz.ntmps139
    go_wp2_with (go_at_call 107; refine (uh HW).mono ?_; rintro e w1 ⟨rfl, hw⟩; subst hw)
    go_ret
    exact ⟨rfl, uh FIN _ rfl⟩
   | false =>
    cases c3 : (x.toList == [116, 97, 98, 108, 101]) with
    | true =>
     go_enter Tryz.func139, Tryz.ntmps139
     go_wp2_with (go_at_call 107; refine (uh HW).mono ?_; rintro e w1 ⟨rfl, hw⟩; subst hw)
     go_ret
     exact ⟨rfl, uh FIN _ rfl⟩
    | false =>
     cases c4 : (x.toList == [110, 111, 110, 101]) with
     | true =>
      go_enter Tryz.func139, Tryz.ntmps139
      go_wp2_with (go_at_call 107; refine (uh HW).mono ?_; rintro e w1 ⟨rfl, hw⟩; subst hw)
      go_ret
      exact ⟨rfl, uh FIN _ rfl⟩
     | false =>
      cases c5 : (x.toList == [99, 108, 97, 115, 104]) with
      | true =>
       go_enter Tryz.func139, Tryz.ntmps139
       go_wp2_with (go_at_call 107; refine (uh HW).mono ?_; rintro e w1 ⟨rfl, hw⟩; subst hw)
       go_ret
       exact ⟨rfl, uh FIN _ rfl⟩
      | false =>
       exfalso
       rcases isNameB_no h with h | h | h | h | h | h
       ·rw [c0] at h; cases h
       ·omega
       ·rw [c2] at h; cases h
       ·rw [c3] at h; cases h
       ·rw [c4] at h; cases h
       ·rw [c5] at h; cases h
theorem rname_no (b : Nat) (s : ByteArray) (k : Nat) (far : Bool) (w : World) (hr : RR b s k false far w) (hs : s.size ≤ 1000) (hk : k ≤ s.size) (hb : nextP s k = k) {p : Nat} (h : nameR s k = .inl p) :
  Calls Tryz.prog 139 #[.pointer (some ⟨b, 0, none⟩)] w fun e w' => e = .returned (.string ByteArray.empty) ∧ Mv b w w' ∧ RR b s p true far w' := by
 unfold nameR at h
 rw [hb] at h
 split at h
 case isTrue => cases h
 rename_i hn
 simp only [Sum.inl.injEq] at h
 subst h
 exact rname_not b s k false far _ w hr (rword_ok b s k far w hr hs hk) (by simpa using hn)
theorem isNameB_empty : isNameB ByteArray.empty = false := by
 have h : ByteArray.empty.toList = [] := by first | rfl | decide | simp | (unfold ByteArray.toList ByteArray.toList.loop; rfl)
 simp [isNameB, h]
theorem rname_bad (b : Nat) (s : ByteArray) (k : Nat) (far : Bool) (w : World) (hr : RR b s k true far w) (hs : s.size ≤ 1000) :
  Calls Tryz.prog 139 #[.pointer (some ⟨b, 0, none⟩)] w fun e w' => e = .returned (.string ByteArray.empty) ∧ Mv b w w' ∧ RR b s k true far w' :=
 rname_not b s k true far _ w hr (rword_bad b s k far w hr hs) isNameB_empty
end Go.Proofs.YthnggjaecngbiaaGreatDoor
