import Derived.Test.YtdgbmcbkbkbdoaaGreatDoorRfA
import Derived.Test.YtdgbmcbkbkbdoaaGreatDoorRdK
namespace Go.Proofs.YtdgbmcbkbkbdoaaGreatDoor
open Go.RowKit
def farV (v : Int) : Bool := decide (1000000 < v ∨ v < -1000000)
theorem digV_lt {s : ByteArray} {k m : Nat} (hkm : k ≤ m) (hlt : m < s.size) : digV s k (m + 1 - k) = 10 * digV s k (m - k) + ((s[m].toNat : Int) - 48) := by
 rw [show m + 1 - k = (m - k) + 1 by omega]
 simp only [digV]
 rw [show k + (m - k) = m by omega, byteAt_in hlt]
def negRes (t : Bool) : Res Int → Res Int
 | .inl p => .inl p
 | .inr (v, q) => .inr (neg t v, q)
set_option maxHeartbeats 3200000 in
theorem rnumber_any (b : Nat) (s : ByteArray) (k : Nat) (far : Bool) (w : World) (hr : RR b s k false far w) (hs : s.size ≤ 1000) (hk : k ≤ s.size) (hb : nextP s k = k) :
  Calls Tryz.prog 150 #[.pointer (some ⟨b, 0, none⟩)] w fun e w' => (∃ p, numberR s k = .inl p ∧ e = .returned (.int .i64 0) ∧ Mv b w w' ∧ RR b s p true far w') ∨ (∃ v q, numberR s k = .inr (v, q) ∧ e = .returned (.int .i64 v) ∧ Mv b w w' ∧ RR b s (nextP s q) false (far || farV v) w') := by
 have h1 := hr.at
 have hf1 := hr.free 1
 have H := hide hr
 clear hr
 obtain ⟨p, hp⟩ : ∃ p, p = numAt s k := ⟨_, rfl⟩
 have hpe : p = adv (inR s k 45 45) k := by rw [hp]; unfold numAt; rw [hb]
 have hple : p ≤ s.size := by rw [hpe]; exact adv_le hk (by omega)
 have HN : Hid (∀ d, digitsR s p = d → numberR s k = negRes (inR s k 45 45) d) := hide (fun d hd => by unfold numberR; rw [← hp, hd, hb]; cases d <;> rfl)
 clear hp
 cases hneg : inR s k 45 45 with
 | true =>
  have hlt0 := inR_lt (by omega) hneg
  rw [hneg] at hpe HN
  have HX := hide (hv_yes hneg (by omega))
  clear hneg
  go_enter Tryz.func150, Tryz.ntmps150
  go_wp2_with (go_at_call 121; refine (rhere_any _ _ k false far _ (by exact uh H)).mono ?_; rintro e w' ⟨rfl, n, rfl⟩; rw [uh HX])
  have HR : Hid (Mv b w ((w.drewN n).setCell ⟨b, 1, none⟩ (.int .i64 ((k : Int) + 1))) ∧ RR b s p false far ((w.drewN n).setCell ⟨b, 1, none⟩ (.int .i64 ((k : Int) + 1)))) := hide ⟨((Mv.refl b w).drewN n).set _ _, by
   have : p = k + 1 := hpe
   subst this
   rw [show ((k : Int) + 1) = ((k + 1 : Nat) : Int) from by omega]
   exact ((uh H).drewN n).setAt (k + 1)⟩
  clear HX
  clear H h1 hf1 hpe
  go_loopg [4, 5] (s.size - p) (fun g nv kv wr => ∃ m, p ≤ m ∧ m ≤ s.size ∧ m - p ≤ 7 ∧ g = s.size - m ∧ digEnd s m = digEnd s p ∧ (∀ j, j < m - p → isDig (byteAt s (p + j)) = true) ∧ nv = .int .i64 (digV s p (m - p)) ∧ kv = .int .i64 ((m - p : Nat) : Int) ∧ Mv b w wr ∧ RR b s m false far wr)
  case atStart => exact ⟨p, Nat.le_refl _, hple, by omega, rfl, rfl, by omega, by rw [Nat.sub_self]; rfl, by rw [Nat.sub_self]; rfl, (uh HR).1, (uh HR).2⟩
  case round =>
   obtain ⟨m, hpm, hm, h7, hg, hn, hd, rfl, rfl, hmv, hrd⟩ := hrel
   clear HR
   have h0 := hrd.text
   have h1 := hrd.at
   have h2 := hrd.badC
   have h3 := hrd.farC
   have hf1 := hrd.free 1
   have hf2 := hrd.free 2
   have hf3 := hrd.free 3
   have hv7 := digV_seven h7 hd
   obtain ⟨hv0, hv9⟩ := hv7
   have A : Aside (gk = s.size - m ∧ digEnd s m = digEnd s p ∧ (∀ j, j < m - p → isDig (byteAt s (p + j)) = true) ∧ Mv b w wr ∧ RR b s m false far wr) := ⟨hg, hn, hd, hmv, hrd⟩
   clear hg hn hmv hrd hd
   cases hdig : isDig (byteAt s m) with
   | true =>
    have hlt : m < s.size := by
     rcases Nat.lt_or_ge m s.size with h | h
     ·exact h
     ·rw [byteAt_out h] at hdig; cases hdig
    have hbd := isDig_bd hdig
    rw [byteAt_in hlt] at hbd
    obtain ⟨hb1, hb2⟩ := hbd
    have HB := hide hdig
    have HX := hide (hv_in hlt)
    have HD : Hid (isDig (s[m].toNat : Int) = true) := hide (by rw [← byteAt_in hlt]; exact hdig)
    clear hdig
    by_cases h8 : m - p = 7
    ·have h8b : (((m - p : Nat) : Int) == 7) = true := by rw [beq_iff_eq]; omega
     have H8 := hide h8
     clear h8
     go_wp2_with (first | (go_at_call 121; refine (rhere_any _ _ m false _ _ (by exact A.out.2.2.2.2)).mono ?_; rintro e w' ⟨rfl, n, rfl⟩; rw [uh HX]) | (go_at_call 168; refine (rdigit_any _ _).mono ?_; rintro e w2' ⟨rfl, hw2⟩; rw [uh HD]; subst hw2))
     go_ret
     obtain ⟨hg, hn, hd, hmv, hrd⟩ := A.out
     have h9 := uh H8
     have : digEnd s (m + 1) = digEnd s p := by rw [← hn]; exact (skipTo_step hlt (uh HB)).symm
     have h10 := digEnd_ge s (m + 1)
     have e1 : digitsR s p = .inl m := by unfold digitsR; rw [if_pos (by omega), show p + 7 = m by omega]
     refine Or.inl ⟨m, uh HN _ e1, rfl, ?_, ?_⟩
     ·exact (hmv.drewN _).set _ _
     ·exact (hrd.drewN _).setBad true
    ·have h8b : (((m - p : Nat) : Int) == 7) = false := by rw [beq_eq_false_iff_ne]; omega
     have H8 := hide h8
     clear h8
     go_wp2_with (first | (go_at_call 121; refine (rhere_any _ _ m false _ _ (by exact A.out.2.2.2.2)).mono ?_; rintro e w' ⟨rfl, n, rfl⟩; rw [uh HX]) | (go_at_call 168; refine (rdigit_any _ _).mono ?_; rintro e w2' ⟨rfl, hw2⟩; rw [uh HD]; subst hw2))
     go_roundg (s.size - (m + 1))
     case measure => obtain ⟨hg, _⟩ := A.out; omega
     case rel =>
      obtain ⟨hg, hn, hd, hmv, hrd⟩ := A.out
      have h9 := uh H8
      refine ⟨m + 1, by omega, by omega, by omega, rfl, by rw [← hn]; exact (skipTo_step hlt (uh HB)).symm, ?_, ?_, ?_, ?_, ?_⟩
      ·intro j hj
       by_cases hj2 : j < m - p
       ·exact hd j hj2
       ·rw [show p + j = m by omega]; exact uh HB
      ·rw [digV_lt hpm hlt]
      ·rw [show ((m - p : Nat) : Int) + 1 = ((m + 1 - p : Nat) : Int) by omega]
      ·exact (hmv.drewN _).set _ _
      ·rw [show ((m : Int) + 1) = ((m + 1 : Nat) : Int) from by omega]
       exact (hrd.drewN _).setAt (m + 1)
   | false =>
    have HD : Hid (isDig (hv s m false) = false) := hide (by rw [hv_dig]; exact hdig)
    have he : digEnd s p = m := by rw [← A.out.2.1]; exact skipTo_stop hdig
    have HE := hide he
    clear he hdig
    generalize hx : hv s m false = x at *
    have HX := hide hx
    clear hx
    by_cases h8 : m = p
    ·have h8b : (((m - p : Nat) : Int) == 0) = true := by rw [beq_iff_eq]; omega
     have H8 := hide h8
     clear h8
     go_wp2_with (first | (go_at_call 121; refine (rhere_any _ _ m false _ _ (by exact A.out.2.2.2.2)).mono ?_; rintro e w' ⟨rfl, n, rfl⟩; rw [uh HX]) | (go_at_call 168; refine (rdigit_any _ _).mono ?_; rintro e w2' ⟨rfl, hw2⟩; rw [uh HD]; subst hw2))
     go_ret
     obtain ⟨hg, hn, hd, hmv, hrd⟩ := A.out
     have h9 := uh H8
     have h10 := uh HE
     have e1 : digitsR s p = .inl p := by unfold digitsR; rw [if_neg (by omega), if_pos (by omega)]
     refine Or.inl ⟨p, uh HN _ e1, rfl, (hmv.drewN _).set _ _, ?_⟩
     have := (hrd.drewN n).setBad true
     rw [h9] at this
     exact this
    ·have h8b : (((m - p : Nat) : Int) == 0) = false := by rw [beq_eq_false_iff_ne]; omega
     have H8 := hide h8
     clear h8
     cases far with
     | true =>
      go_wp2_with (first | (go_at_call 121; refine (rhere_any _ _ m false _ _ (by exact A.out.2.2.2.2)).mono ?_; rintro e w' ⟨rfl, n, rfl⟩; rw [uh HX]) | (go_at_call 168; refine (rdigit_any _ _).mono ?_; rintro e w2' ⟨rfl, hw2⟩; rw [uh HD]; subst hw2))
      refine (rblanks_ok b s m true _ ((A.out.2.2.2.2.drewN _).setFar true) hs hm).mono ?_
      rintro e w3 ⟨rfl, hm3, hr3⟩
      have HM := hide (((A.out.2.2.2.1.drewN n).set 3 (.bool true)).trans hm3)
      have HR := hide hr3
      clear hm3 hr3
      go_wp2
      go_ret
      have h10 := uh HE
      have h11 := uh H8
      have e1 : digitsR s p = .inr (digV s p (m - p), m) := by unfold digitsR; rw [if_neg (by omega), if_neg (by omega), h10]
      refine Or.inr ⟨neg true (digV s p (m - p)), m, uh HN _ e1, rfl, uh HM, ?_⟩
      rw [show (true || farV (neg true (digV s p (m - p)))) = true from by first | rfl | (unfold farV neg; simp; omega)]
      exact uh HR
     | false =>
      by_cases h9 : (1000000 : Int) < digV s p (m - p)
      ·have h9b : decide ((1000000 : Int) < digV s p (m - p)) = true := by simpa using h9
       go_wp2_with (first | (go_at_call 121; refine (rhere_any _ _ m false _ _ (by exact A.out.2.2.2.2)).mono ?_; rintro e w' ⟨rfl, n, rfl⟩; rw [uh HX]) | (go_at_call 168; refine (rdigit_any _ _).mono ?_; rintro e w2' ⟨rfl, hw2⟩; rw [uh HD]; subst hw2))
       refine (rblanks_ok b s m true _ ((A.out.2.2.2.2.drewN _).setFar true) hs hm).mono ?_
       rintro e w3 ⟨rfl, hm3, hr3⟩
       have HM := hide (((A.out.2.2.2.1.drewN n).set 3 (.bool true)).trans hm3)
       have HR := hide hr3
       clear hm3 hr3
       go_wp2
       go_ret
       have h10 := uh HE
       have h11 := uh H8
       have e1 : digitsR s p = .inr (digV s p (m - p), m) := by unfold digitsR; rw [if_neg (by omega), if_neg (by omega), h10]
       refine Or.inr ⟨neg true (digV s p (m - p)), m, uh HN _ e1, rfl, uh HM, ?_⟩
       rw [show (false || farV (neg true (digV s p (m - p)))) = true from by first | rfl | (unfold farV neg; simp; omega)]
       exact uh HR
      ·have h9b : decide ((1000000 : Int) < digV s p (m - p)) = false := by simpa using h9
       go_wp2_with (first | (go_at_call 121; refine (rhere_any _ _ m false _ _ (by exact A.out.2.2.2.2)).mono ?_; rintro e w' ⟨rfl, n, rfl⟩; rw [uh HX]) | (go_at_call 168; refine (rdigit_any _ _).mono ?_; rintro e w2' ⟨rfl, hw2⟩; rw [uh HD]; subst hw2))
       refine (rblanks_ok b s m false _ ((A.out.2.2.2.2.drewN _).setFar false) hs hm).mono ?_
       rintro e w3 ⟨rfl, hm3, hr3⟩
       have HM := hide (((A.out.2.2.2.1.drewN n).set 3 (.bool false)).trans hm3)
       have HR := hide hr3
       clear hm3 hr3
       go_wp2
       go_ret
       have h10 := uh HE
       have h11 := uh H8
       have e1 : digitsR s p = .inr (digV s p (m - p), m) := by unfold digitsR; rw [if_neg (by omega), if_neg (by omega), h10]
       refine Or.inr ⟨neg true (digV s p (m - p)), m, uh HN _ e1, rfl, uh HM, ?_⟩
       rw [show (false || farV (neg true (digV s p (m - p)))) = false from by first | rfl | (unfold farV neg; simp; omega)]
       exact uh HR
 | false =>
  rw [hneg] at hpe HN
  have hx0 : (hv s k false == 45) = false := hv_ne (by omega) hneg
  generalize hx : hv s k false = x at *
  have HX := hide hx
  clear hneg hx
  go_enter Tryz.func150, Tryz.ntmps150
  go_wp2_with (go_at_call 121; refine (rhere_any _ _ k false far _ (by exact uh H)).mono ?_; rintro e w' ⟨rfl, n, rfl⟩; rw [uh HX])
  have HR : Hid (Mv b w (w.drewN n) ∧ RR b s p false far (w.drewN n)) := hide ⟨(Mv.refl b w).drewN n, by
   have : p = k := hpe
   subst this
   exact (uh H).drewN n⟩
  clear HX hx0
  clear H h1 hf1 hpe
  go_loopg [4, 5] (s.size - p) (fun g nv kv wr => ∃ m, p ≤ m ∧ m ≤ s.size ∧ m - p ≤ 7 ∧ g = s.size - m ∧ digEnd s m = digEnd s p ∧ (∀ j, j < m - p → isDig (byteAt s (p + j)) = true) ∧ nv = .int .i64 (digV s p (m - p)) ∧ kv = .int .i64 ((m - p : Nat) : Int) ∧ Mv b w wr ∧ RR b s m false far wr)
  case atStart => exact ⟨p, Nat.le_refl _, hple, by omega, rfl, rfl, by omega, by rw [Nat.sub_self]; rfl, by rw [Nat.sub_self]; rfl, (uh HR).1, (uh HR).2⟩
  case round =>
   obtain ⟨m, hpm, hm, h7, hg, hn, hd, rfl, rfl, hmv, hrd⟩ := hrel
   clear HR
   have h0 := hrd.text
   have h1 := hrd.at
   have h2 := hrd.badC
   have h3 := hrd.farC
   have hf1 := hrd.free 1
   have hf2 := hrd.free 2
   have hf3 := hrd.free 3
   have hv7 := digV_seven h7 hd
   obtain ⟨hv0, hv9⟩ := hv7
   have A : Aside (gk = s.size - m ∧ digEnd s m = digEnd s p ∧ (∀ j, j < m - p → isDig (byteAt s (p + j)) = true) ∧ Mv b w wr ∧ RR b s m false far wr) := ⟨hg, hn, hd, hmv, hrd⟩
   clear hg hn hmv hrd hd
   cases hdig : isDig (byteAt s m) with
   | true =>
    have hlt : m < s.size := by
     rcases Nat.lt_or_ge m s.size with h | h
     ·exact h
     ·rw [byteAt_out h] at hdig; cases hdig
    have hbd := isDig_bd hdig
    rw [byteAt_in hlt] at hbd
    obtain ⟨hb1, hb2⟩ := hbd
    have HB := hide hdig
    have HX := hide (hv_in hlt)
    have HD : Hid (isDig (s[m].toNat : Int) = true) := hide (by rw [← byteAt_in hlt]; exact hdig)
    clear hdig
    by_cases h8 : m - p = 7
    ·have h8b : (((m - p : Nat) : Int) == 7) = true := by rw [beq_iff_eq]; omega
     have H8 := hide h8
     clear h8
     go_wp2_with (first | (go_at_call 121; refine (rhere_any _ _ m false _ _ (by exact A.out.2.2.2.2)).mono ?_; rintro e w' ⟨rfl, n, rfl⟩; rw [uh HX]) | (go_at_call 168; refine (rdigit_any _ _).mono ?_; rintro e w2' ⟨rfl, hw2⟩; rw [uh HD]; subst hw2))
     go_ret
     obtain ⟨hg, hn, hd, hmv, hrd⟩ := A.out
     have h9 := uh H8
     have : digEnd s (m + 1) = digEnd s p := by rw [← hn]; exact (skipTo_step hlt (uh HB)).symm
     have h10 := digEnd_ge s (m + 1)
     have e1 : digitsR s p = .inl m := by unfold digitsR; rw [if_pos (by omega), show p + 7 = m by omega]
     refine Or.inl ⟨m, uh HN _ e1, rfl, ?_, ?_⟩
     ·exact (hmv.drewN _).set _ _
     ·exact (hrd.drewN _).setBad true
    ·have h8b : (((m - p : Nat) : Int) == 7) = false := by rw [beq_eq_false_iff_ne]; omega
     have H8 := hide h8
     clear h8
     go_wp2_with (first | (go_at_call 121; refine (rhere_any _ _ m false _ _ (by exact A.out.2.2.2.2)).mono ?_; rintro e w' ⟨rfl, n, rfl⟩; rw [uh HX]) | (go_at_call 168; refine (rdigit_any _ _).mono ?_; rintro e w2' ⟨rfl, hw2⟩; rw [uh HD]; subst hw2))
     go_roundg (s.size - (m + 1))
     case measure => obtain ⟨hg, _⟩ := A.out; omega
     case rel =>
      obtain ⟨hg, hn, hd, hmv, hrd⟩ := A.out
      have h9 := uh H8
      refine ⟨m + 1, by omega, by omega, by omega, rfl, by rw [← hn]; exact (skipTo_step hlt (uh HB)).symm, ?_, ?_, ?_, ?_, ?_⟩
      ·intro j hj
       by_cases hj2 : j < m - p
       ·exact hd j hj2
       ·rw [show p + j = m by omega]; exact uh HB
      ·rw [digV_lt hpm hlt]
      ·rw [show ((m - p : Nat) : Int) + 1 = ((m + 1 - p : Nat) : Int) by omega]
      ·exact (hmv.drewN _).set _ _
      ·rw [show ((m : Int) + 1) = ((m + 1 : Nat) : Int) from by omega]
       exact (hrd.drewN _).setAt (m + 1)
   | false =>
    have HD : Hid (isDig (hv s m false) = false) := hide (by rw [hv_dig]; exact hdig)
    have he : digEnd s p = m := by rw [← A.out.2.1]; exact skipTo_stop hdig
    have HE := hide he
    clear he hdig
    generalize hx : hv s m false = x at *
    have HX := hide hx
    clear hx
    by_cases h8 : m = p
    ·have h8b : (((m - p : Nat) : Int) == 0) = true := by rw [beq_iff_eq]; omega
     have H8 := hide h8
     clear h8
     go_wp2_with (first | (go_at_call 121; refine (rhere_any _ _ m false _ _ (by exact A.out.2.2.2.2)).mono ?_; rintro e w' ⟨rfl, n, rfl⟩; rw [uh HX]) | (go_at_call 168; refine (rdigit_any _ _).mono ?_; rintro e w2' ⟨rfl, hw2⟩; rw [uh HD]; subst hw2))
     go_ret
     obtain ⟨hg, hn, hd, hmv, hrd⟩ := A.out
     have h9 := uh H8
     have h10 := uh HE
     have e1 : digitsR s p = .inl p := by unfold digitsR; rw [if_neg (by omega), if_pos (by omega)]
     refine Or.inl ⟨p, uh HN _ e1, rfl, (hmv.drewN _).set _ _, ?_⟩
     have := (hrd.drewN n).setBad true
     rw [h9] at this
     exact this
    ·have h8b : (((m - p : Nat) : Int) == 0) = false := by rw [beq_eq_false_iff_ne]; omega
     have H8 := hide h8
     clear h8
     cases far with
     | true =>
      go_wp2_with (first | (go_at_call 121; refine (rhere_any _ _ m false _ _ (by exact A.out.2.2.2.2)).mono ?_; rintro e w' ⟨rfl, n, rfl⟩; rw [uh HX]) | (go_at_call 168; refine (rdigit_any _ _).mono ?_; rintro e w2' ⟨rfl, hw2⟩; rw [uh HD]; subst hw2))
      refine (rblanks_ok b s m true _ ((A.out.2.2.2.2.drewN _).setFar true) hs hm).mono ?_
      rintro e w3 ⟨rfl, hm3, hr3⟩
      have HM := hide (((A.out.2.2.2.1.drewN n).set 3 (.bool true)).trans hm3)
      have HR := hide hr3
      clear hm3 hr3
      go_wp2
      go_ret
      have h10 := uh HE
      have h11 := uh H8
      have e1 : digitsR s p = .inr (digV s p (m - p), m) := by unfold digitsR; rw [if_neg (by omega), if_neg (by omega), h10]
      refine Or.inr ⟨neg false (digV s p (m - p)), m, uh HN _ e1, rfl, uh HM, ?_⟩
      rw [show (true || farV (neg false (digV s p (m - p)))) = true from by first | rfl | (unfold farV neg; simp; omega)]
      exact uh HR
     | false =>
      by_cases h9 : (1000000 : Int) < digV s p (m - p)
      ·have h9b : decide ((1000000 : Int) < digV s p (m - p)) = true := by simpa using h9
       go_wp2_with (first | (go_at_call 121; refine (rhere_any _ _ m false _ _ (by exact A.out.2.2.2.2)).mono ?_; rintro e w' ⟨rfl, n, rfl⟩; rw [uh HX]) | (go_at_call 168; refine (rdigit_any _ _).mono ?_; rintro e w2' ⟨rfl, hw2⟩; rw [uh HD]; subst hw2))
       refine (rblanks_ok b s m true _ ((A.out.2.2.2.2.drewN _).setFar true) hs hm).mono ?_
       rintro e w3 ⟨rfl, hm3, hr3⟩
       have HM := hide (((A.out.2.2.2.1.drewN n).set 3 (.bool true)).trans hm3)
       have HR := hide hr3
       clear hm3 hr3
       go_wp2
       go_ret
       have h10 := uh HE
       have h11 := uh H8
       have e1 : digitsR s p = .inr (digV s p (m - p), m) := by unfold digitsR; rw [if_neg (by omega), if_neg (by omega), h10]
       refine Or.inr ⟨neg false (digV s p (m - p)), m, uh HN _ e1, rfl, uh HM, ?_⟩
       rw [show (false || farV (neg false (digV s p (m - p)))) = true from by first | rfl | (unfold farV neg; simp; omega)]
       exact uh HR
      ·have h9b : decide ((1000000 : Int) < digV s p (m - p)) = false := by simpa using h9
       go_wp2_with (first | (go_at_call 121; refine (rhere_any _ _ m false _ _ (by exact A.out.2.2.2.2)).mono ?_; rintro e w' ⟨rfl, n, rfl⟩; rw [uh HX]) | (go_at_call 168; refine (rdigit_any _ _).mono ?_; rintro e w2' ⟨rfl, hw2⟩; rw [uh HD]; subst hw2))
       refine (rblanks_ok b s m false _ ((A.out.2.2.2.2.drewN _).setFar false) hs hm).mono ?_
       rintro e w3 ⟨rfl, hm3, hr3⟩
       have HM := hide (((A.out.2.2.2.1.drewN n).set 3 (.bool false)).trans hm3)
       have HR := hide hr3
       clear hm3 hr3
       go_wp2
       go_ret
       have h10 := uh HE
       have h11 := uh H8
       have e1 : digitsR s p = .inr (digV s p (m - p), m) := by unfold digitsR; rw [if_neg (by omega), if_neg (by omega), h10]
       refine Or.inr ⟨neg false (digV s p (m - p)), m, uh HN _ e1, rfl, uh HM, ?_⟩
       rw [show (false || farV (neg false (digV s p (m - p)))) = false from by first | rfl | (unfold farV neg; simp; omega)]
       exact uh HR
end Go.Proofs.YtdgbmcbkbkbdoaaGreatDoor
namespace Go.Proofs.YtdgbmcbkbkbdoaaGreatDoor
open Go.RowKit
theorem rnumber_yes (b : Nat) (s : ByteArray) (k : Nat) (far : Bool) (w : World) (hr : RR b s k false far w) (hs : s.size ≤ 1000) (hk : k ≤ s.size) (hb : nextP s k = k) {v : Int} {q : Nat} (h : numberR s k = .inr (v, q)) :
  Calls Tryz.prog 150 #[.pointer (some ⟨b, 0, none⟩)] w fun e w' => e = .returned (.int .i64 v) ∧ Mv b w w' ∧ RR b s (nextP s q) false (far || farV v) w' := by
 refine (rnumber_any b s k far w hr hs hk hb).mono ?_
 rintro e w' (⟨p, h1, _⟩ | ⟨v', q', h1, h2⟩)
 ·rw [h] at h1; cases h1
 ·rw [h] at h1; cases h1; exact h2
theorem rnumber_no (b : Nat) (s : ByteArray) (k : Nat) (far : Bool) (w : World) (hr : RR b s k false far w) (hs : s.size ≤ 1000) (hk : k ≤ s.size) (hb : nextP s k = k) {p : Nat} (h : numberR s k = .inl p) :
  Calls Tryz.prog 150 #[.pointer (some ⟨b, 0, none⟩)] w fun e w' => e = .returned (.int .i64 0) ∧ Mv b w w' ∧ RR b s p true far w' := by
 refine (rnumber_any b s k far w hr hs hk hb).mono ?_
 rintro e w' (⟨p, h1, h2⟩ | ⟨v', q', h1, h2⟩)
 ·rw [h] at h1; cases h1; exact h2
 ·rw [h] at h1; cases h1
set_option maxHeartbeats 800000 in
theorem rnumber_bad (b : Nat) (s : ByteArray) (k : Nat) (far : Bool) (w : World) (hr : RR b s k true far w) :
  Calls Tryz.prog 150 #[.pointer (some ⟨b, 0, none⟩)] w fun e w' => e = .returned (.int .i64 0) ∧ Mv b w w' ∧ RR b s k true far w' := by
 have h2 := hr.badC
 have hf2 := hr.free 2
 have H := hide hr
 clear hr
 go_enter Tryz.func150, Tryz.ntmps150
 go_wp2_with (go_at_call 121; refine (rhere_any _ _ k true far _ (by exact uh H)).mono ?_; rintro e w' ⟨rfl, n, rfl⟩; rw [hv_bad])
 go_loopg [4, 5] 0 (fun _ nv kv wr => nv = .int .i64 0 ∧ kv = .int .i64 0 ∧ ∃ n, wr = w.drewN n)
 case atStart => exact ⟨rfl, rfl, _, rfl⟩
 case round =>
  obtain ⟨rfl, rfl, n, rfl⟩ := hrel
  go_wp2_with (first | (go_at_call 121; refine (rhere_any _ _ k true far _ (by exact (uh H).drewN _)).mono ?_; rintro e w' ⟨rfl, n, rfl⟩; rw [hv_bad]) | (go_at_call 168; refine (rdigit_any _ _).mono ?_; rintro e w2' ⟨rfl, hw2⟩; rw [show isDig 0 = false from rfl]; subst hw2))
  go_ret
  exact ⟨rfl, ((Mv.refl b w).drewN _).set _ _, ((uh H).drewN _).setBad true⟩
def mk99 (s : ByteArray) (m : Nat) (n : Int) : Int × Nat := if inR s m 99 99 then (n + 4, m + 1) else (n, m)
def mk98 (s : ByteArray) (m : Nat) (n : Int) : Int × Nat := if inR s m 98 98 then mk99 s (m + 1) (n + 2) else if inR s m 99 99 then (n + 4, m + 1) else (n, m)
def mk97 (s : ByteArray) (m : Nat) (n : Int) : Int × Nat := if inR s m 97 97 then mk98 s (m + 1) (n + 1) else if inR s m 98 98 then mk99 s (m + 1) (n + 2) else if inR s m 99 99 then (n + 4, m + 1) else (n, m)
def mkF (s : ByteArray) (l : Int) (m : Nat) (n : Int) : Int × Nat := if l = 97 then mk97 s m n else if l = 98 then mk98 s m n else if l = 99 then mk99 s m n else (n, m)
theorem mk98_eq (s : ByteArray) (m : Nat) (n : Int) : mk98 s m n = mk99 s (adv (inR s m 98 98) m) (n + (bit (inR s m 98 98) 2 : Nat)) := by
 unfold mk98
 cases h : inR s m 98 98
 ·simp [adv, bit, mk99]
 ·simp [adv, bit]
theorem mk97_eq (s : ByteArray) (m : Nat) (n : Int) : mk97 s m n = mk98 s (adv (inR s m 97 97) m) (n + (bit (inR s m 97 97) 1 : Nat)) := by
 unfold mk97
 cases h : inR s m 97 97
 ·simp [adv, bit, mk98]
 ·simp [adv, bit]
theorem mk99_eq (s : ByteArray) (m : Nat) (n : Int) : mk99 s m n = (n + (bit (inR s m 99 99) 4 : Nat), adv (inR s m 99 99) m) := by
 unfold mk99
 cases h : inR s m 99 99 <;> simp [adv, bit]
theorem mkF_first (s : ByteArray) (k : Nat) : mkF s 97 k 0 = ((mkSet s k : Int), mk3 s k) := by
 simp only [mkF, if_true]
 rw [mk97_eq, mk98_eq, mk99_eq]
 simp only [mkSet, mk3, mk2, mk1]
 congr 1
 omega
theorem inR_hv {s : ByteArray} {m : Nat} {c : Int} (hc : 0 < c) : inR s m c c = decide (hv s m false = c) := by
 rw [← hv_eq hc, Bool.eq_iff_iff]; simp
theorem mkF_step {s : ByteArray} {l c : Int} {m : Nat} {n : Int} (hl : 97 ≤ l) (hlc : l ≤ c) (hc : c ≤ 99) (h : hv s m false = c) (d : Int) (hd : c = 97 ∧ d = 1 ∨ c = 98 ∧ d = 2 ∨ c = 99 ∧ d = 4) : mkF s l m n = mkF s (c + 1) (m + 1) (n + d) := by
 unfold mkF mk97 mk98 mk99
 simp only [inR_hv (s := s) (m := m) (c := 97) (by omega), inR_hv (s := s) (m := m) (c := 98) (by omega), inR_hv (s := s) (m := m) (c := 99) (by omega), h]
 rcases hd with ⟨rfl, rfl⟩ | ⟨rfl, rfl⟩ | ⟨rfl, rfl⟩
 ·obtain rfl : l = 97 := by omega
  simp
 ·rcases (by omega : l = 97 ∨ l = 98) with rfl | rfl <;> simp
 ·rcases (by omega : l = 97 ∨ l = 98 ∨ l = 99) with rfl | rfl | rfl <;> simp
theorem mkF_stop {s : ByteArray} {l : Int} {m : Nat} {n : Int} (_hl : 97 ≤ l) (h : ¬ (l ≤ hv s m false ∧ hv s m false ≤ 99)) : mkF s l m n = (n, m) := by
 unfold mkF mk97 mk98 mk99
 simp only [inR_hv (s := s) (m := m) (c := 97) (by omega), inR_hv (s := s) (m := m) (c := 98) (by omega), inR_hv (s := s) (m := m) (c := 99) (by omega)]
 split
 ·rw [if_neg (by simp; omega), if_neg (by simp; omega), if_neg (by simp; omega)]
 ·split
  ·rw [if_neg (by simp; omega), if_neg (by simp; omega)]
  ·split
   ·rw [if_neg (by simp; omega)]
   ·rfl
set_option maxHeartbeats 1600000 in
theorem rmarks_any (b : Nat) (s : ByteArray) (k : Nat) (far : Bool) (w : World) (hr : RR b s k false far w) (hs : s.size ≤ 1000) (hk : k ≤ s.size) :
  Calls Tryz.prog 124 #[.pointer (some ⟨b, 0, none⟩)] w fun e w' => (∃ p, marksR s k = .inl p ∧ e = .returned (.int .i64 0) ∧ Mv b w w' ∧ RR b s p true far w') ∨ (∃ v q, marksR s k = .inr (v, q) ∧ e = .returned (.int .i64 (v : Int)) ∧ Mv b w w' ∧ RR b s (nextP s q) false far w') := by
 have H := hide hr
 clear hr
 go_enter Tryz.func124, Tryz.ntmps124
 go_wp2_with fail
 go_loopg [3, 4] 3 (fun g nv lv wr => ∃ (l n : Int) (m : Nat), 97 ≤ l ∧ l ≤ 100 ∧ (g : Int) = 100 - l ∧ m ≤ s.size ∧ 0 ≤ n ∧ n ≤ 100 * (l - 97) ∧ nv = .int .i64 n ∧ lv = .int .u8 l ∧ mkF s l m n = ((mkSet s k : Int), mk3 s k) ∧ Mv b w wr ∧ RR b s m false far wr)
 case atStart => exact ⟨97, 0, k, by omega, by omega, by omega, hk, by omega, by omega, rfl, rfl, mkF_first s k, Mv.refl _ _, uh H⟩
 case round =>
  obtain ⟨l, nn, m, hl, hl1, hg, hm, hn0, hn1, rfl, rfl, hF, hmv, hrd⟩ := hrel
  clear H
  have h1 := hrd.at
  have h2 := hrd.badC
  have hf1 := hrd.free 1
  have hf2 := hrd.free 2
  have A : Aside ((gk : Int) = 100 - l ∧ mkF s l m nn = ((mkSet s k : Int), mk3 s k) ∧ Mv b w wr ∧ RR b s m false far wr) := ⟨hg, hF, hmv, hrd⟩
  clear hg hF hmv hrd
  by_cases hin : l ≤ hv s m false ∧ hv s m false ≤ 99
  ·have hlt : m < s.size := by
    rcases Nat.lt_or_ge m s.size with h | h
    ·exact h
    ·rw [hv_out h] at hin; omega
   obtain ⟨hin1, hin2⟩ := hin
   rcases (by omega : hv s m false = 97 ∨ hv s m false = 98 ∨ hv s m false = 99) with hc | hc | hc
   ·rw [hc] at hin1
    have hd1 : decide (l ≤ 97) = true := by simpa using hin1
    have HX := hide hc
    clear hc hin2
    go_wp2_with (go_at_call 121; refine (rhere_any _ _ m false far _ (by exact A.out.2.2.2)).mono ?_; rintro e w' ⟨rfl, n, rfl⟩; rw [uh HX])
    go_roundg 2
    case measure => have := A.out.1; omega
    case rel =>
     obtain ⟨hg, hF, hmv, hrd⟩ := A.out
     refine ⟨98, nn + 1, m + 1, by omega, by omega, by omega, by omega, by omega, by omega, rfl, rfl, ?_, (hmv.drewN _).set _ _, ?_⟩
     ·rw [← hF]; exact (mkF_step hl hin1 (by omega) (uh HX) 1 (.inl ⟨rfl, rfl⟩)).symm
     ·rw [show ((m : Int) + 1) = ((m + 1 : Nat) : Int) from by omega]
      exact (hrd.drewN _).setAt (m + 1)
   ·rw [hc] at hin1
    have hd1 : decide (l ≤ 98) = true := by simpa using hin1
    have HX := hide hc
    clear hc hin2
    go_wp2_with (go_at_call 121; refine (rhere_any _ _ m false far _ (by exact A.out.2.2.2)).mono ?_; rintro e w' ⟨rfl, n, rfl⟩; rw [uh HX])
    go_roundg 1
    case measure => have := A.out.1; omega
    case rel =>
     obtain ⟨hg, hF, hmv, hrd⟩ := A.out
     refine ⟨99, nn + 2, m + 1, by omega, by omega, by omega, by omega, by omega, by omega, rfl, rfl, ?_, (hmv.drewN _).set _ _, ?_⟩
     ·rw [← hF]; exact (mkF_step hl hin1 (by omega) (uh HX) 2 (.inr (.inl ⟨rfl, rfl⟩))).symm
     ·rw [show ((m : Int) + 1) = ((m + 1 : Nat) : Int) from by omega]
      exact (hrd.drewN _).setAt (m + 1)
   ·rw [hc] at hin1
    have hd1 : decide (l ≤ 99) = true := by simpa using hin1
    have HX := hide hc
    clear hc hin2
    go_wp2_with (go_at_call 121; refine (rhere_any _ _ m false far _ (by exact A.out.2.2.2)).mono ?_; rintro e w' ⟨rfl, n, rfl⟩; rw [uh HX])
    go_roundg 0
    case measure => have := A.out.1; omega
    case rel =>
     obtain ⟨hg, hF, hmv, hrd⟩ := A.out
     refine ⟨100, nn + 4, m + 1, by omega, by omega, by omega, by omega, by omega, by omega, rfl, rfl, ?_, (hmv.drewN _).set _ _, ?_⟩
     ·rw [← hF]; exact (mkF_step hl hin1 (by omega) (uh HX) 4 (.inr (.inr ⟨rfl, rfl⟩))).symm
     ·rw [show ((m : Int) + 1) = ((m + 1 : Nat) : Int) from by omega]
      exact (hrd.drewN _).setAt (m + 1)
  ·have HF : Hid (nn = (mkSet s k : Int) ∧ m = mk3 s k) := hide (by
    have h := A.out.2.1
    rw [mkF_stop hl hin] at h
    simpa using h)
   generalize hx : hv s m false = c at *
   have HX := hide hx
   clear hx
   by_cases h0 : nn = 0
   ·have h0b : (nn == 0) = true := by simpa using h0
    have fin : ∀ w3, Mv b wr w3 → RR b s m true far w3 → ∃ p, marksR s k = .inl p ∧ Mv b w w3 ∧ RR b s p true far w3 := fun w3 a1 a2 => by
     obtain ⟨e1, e2⟩ := uh HF
     refine ⟨mk3 s k, ?_, A.out.2.2.1.trans a1, by rw [← e2]; exact a2⟩
     unfold marksR
     rw [if_pos (by omega)]
    have FIN := hide fin
    clear fin
    subst h0
    by_cases hin1 : l ≤ c
    ·have hd1 : decide (l ≤ c) = true := by simpa using hin1
     have hd2 : decide (c ≤ 99) = false := by simp; omega
     go_wp2_with (go_at_call 121; refine (rhere_any _ _ m false far _ (by exact A.out.2.2.2)).mono ?_; rintro e w' ⟨rfl, n, rfl⟩; rw [uh HX])
     refine (rblanks_bad b s m far _ ((A.out.2.2.2.drewN _).setBad true)).mono ?_
     rintro e w3 ⟨rfl, hm3, hr3⟩
     have HG := hide (uh FIN _ ((((Mv.refl b wr).drewN _).set _ _).trans hm3) hr3)
     clear hm3 hr3
     go_wp2
     go_ret
     obtain ⟨p, e1, e2, e3⟩ := uh HG
     exact Or.inl ⟨p, e1, rfl, e2, e3⟩
    ·have hd1 : decide (l ≤ c) = false := by simpa using hin1
     go_wp2_with (go_at_call 121; refine (rhere_any _ _ m false far _ (by exact A.out.2.2.2)).mono ?_; rintro e w' ⟨rfl, n, rfl⟩; rw [uh HX])
     refine (rblanks_bad b s m far _ ((A.out.2.2.2.drewN _).setBad true)).mono ?_
     rintro e w3 ⟨rfl, hm3, hr3⟩
     have HG := hide (uh FIN _ ((((Mv.refl b wr).drewN _).set _ _).trans hm3) hr3)
     clear hm3 hr3
     go_wp2
     go_ret
     obtain ⟨p, e1, e2, e3⟩ := uh HG
     exact Or.inl ⟨p, e1, rfl, e2, e3⟩
   ·have h0b : (nn == 0) = false := by simpa using h0
    have fin : ∀ w3, Mv b wr w3 → RR b s (nextP s m) false far w3 → ∃ v q, marksR s k = .inr (v, q) ∧ (v : Int) = nn ∧ Mv b w w3 ∧ RR b s (nextP s q) false far w3 := fun w3 a1 a2 => by
     obtain ⟨e1, e2⟩ := uh HF
     refine ⟨mkSet s k, mk3 s k, ?_, e1.symm, A.out.2.2.1.trans a1, by rw [← e2]; exact a2⟩
     unfold marksR
     rw [if_neg (by omega)]
    have FIN := hide fin
    clear fin
    by_cases hin1 : l ≤ c
    ·have hd1 : decide (l ≤ c) = true := by simpa using hin1
     have hd2 : decide (c ≤ 99) = false := by simp; omega
     go_wp2_with (go_at_call 121; refine (rhere_any _ _ m false far _ (by exact A.out.2.2.2)).mono ?_; rintro e w' ⟨rfl, n, rfl⟩; rw [uh HX])
     refine (rblanks_ok b s m far _ (A.out.2.2.2.drewN _) hs hm).mono ?_
     rintro e w3 ⟨rfl, hm3, hr3⟩
     have HG := hide (uh FIN _ (((Mv.refl b wr).drewN _).trans hm3) hr3)
     clear hm3 hr3
     go_wp2
     go_ret
     obtain ⟨v, q, e1, e2, e3, e4⟩ := uh HG
     exact Or.inr ⟨v, q, e1, by rw [e2]; rfl, e3, e4⟩
    ·have hd1 : decide (l ≤ c) = false := by simpa using hin1
     go_wp2_with (go_at_call 121; refine (rhere_any _ _ m false far _ (by exact A.out.2.2.2)).mono ?_; rintro e w' ⟨rfl, n, rfl⟩; rw [uh HX])
     refine (rblanks_ok b s m far _ (A.out.2.2.2.drewN _) hs hm).mono ?_
     rintro e w3 ⟨rfl, hm3, hr3⟩
     have HG := hide (uh FIN _ (((Mv.refl b wr).drewN _).trans hm3) hr3)
     clear hm3 hr3
     go_wp2
     go_ret
     obtain ⟨v, q, e1, e2, e3, e4⟩ := uh HG
     exact Or.inr ⟨v, q, e1, by rw [e2]; rfl, e3, e4⟩
theorem rmarks_yes (b : Nat) (s : ByteArray) (k : Nat) (far : Bool) (w : World) (hr : RR b s k false far w) (hs : s.size ≤ 1000) (hk : k ≤ s.size) {v q : Nat} (h : marksR s k = .inr (v, q)) :
  Calls Tryz.prog 124 #[.pointer (some ⟨b, 0, none⟩)] w fun e w' => e = .returned (.int .i64 (v : Int)) ∧ Mv b w w' ∧ RR b s (nextP s q) false far w' := by
 refine (rmarks_any b s k far w hr hs hk).mono ?_
 rintro e w' (⟨p, h1, _⟩ | ⟨v', q', h1, h2⟩)
 ·rw [h] at h1; cases h1
 ·rw [h] at h1; cases h1; exact h2
theorem rmarks_no (b : Nat) (s : ByteArray) (k : Nat) (far : Bool) (w : World) (hr : RR b s k false far w) (hs : s.size ≤ 1000) (hk : k ≤ s.size) {p : Nat} (h : marksR s k = .inl p) :
  Calls Tryz.prog 124 #[.pointer (some ⟨b, 0, none⟩)] w fun e w' => e = .returned (.int .i64 0) ∧ Mv b w w' ∧ RR b s p true far w' := by
 refine (rmarks_any b s k far w hr hs hk).mono ?_
 rintro e w' (⟨p, h1, h2⟩ | ⟨v', q', h1, h2⟩)
 ·rw [h] at h1; cases h1; exact h2
 ·rw [h] at h1; cases h1
end Go.Proofs.YtdgbmcbkbkbdoaaGreatDoor
namespace Go.Proofs.YtdgbmcbkbkbdoaaGreatDoor
open Go.RowKit
theorem bangs_next {s : ByteArray} {k : Nat} (hk : k ≤ s.size) (f n : Nat) : bangs s f (nextP s k) n = bangs s f k n := by
 cases f with
 | zero => simp only [bangs]; rw [nextP_idem hk]
 | succ f => simp only [bangs]; rw [nextP_idem hk]
theorem bangs_fuel (s : ByteArray) : ∀ (f g k n : Nat), k ≤ s.size → s.size - k ≤ f → s.size - k ≤ g → bangs s f k n = bangs s g k n := by
 intro f
 induction f with
 | zero =>
  intro g k n hk hf hg
  have h : inR s (nextP s k) 33 33 = false := inR_out (by have := nextP_ge s k; omega) (by omega)
  rw [bangs_stop h, bangs_stop h]
 | succ f ih =>
  intro g k n hk hf hg
  cases h : inR s (nextP s k) 33 33 with
  | false => rw [bangs_stop h, bangs_stop h]
  | true =>
   have hlt := inR_lt (by omega) h
   have hge := nextP_ge s k
   obtain ⟨g', rfl⟩ : ∃ g', g = g' + 1 := ⟨g - 1, by omega⟩
   simp only [bangs]
   rw [if_pos h, if_pos h]
   exact ih g' _ _ (by omega) (by omega) (by omega)
def rkind (k : Int) : Int := if k = 0 then 95 else if k = 1 then 110 else if k = 2 then 99 else if k = 3 then 61 else if k = 4 then 46 else if k = 5 then 60 else 62
def rtv (t : PTest) : Value := .agg #[.int .u8 (rkind t.kind), .int .i64 (t.nots : Int), .int .i64 t.low, .int .i64 t.high]
def farT (t : PTest) : Bool := farV t.low || farV t.high
def wn (n : Nat) : Res PTest → Res PTest
 | .inl p => .inl p
 | .inr (t, q) => .inr ({ t with nots := n }, q)
theorem numberR_next {s : ByteArray} {k : Nat} (hk : k ≤ s.size) : numberR s (nextP s k) = numberR s k := by
 unfold numberR numAt
 rw [nextP_idem hk]
theorem toList_len (x : ByteArray) : x.toList.length = x.size := by rw [ByteArray.toList_eq]; exact Array.length_toList
theorem byte0_of {x : ByteArray} {a : UInt8} {l : List UInt8} (h : x.toList = a :: l) (h0 : 0 < x.size) : (x[0].toNat : Int) = (a.toNat : Int) := by
 rw [ByteArray.toList_eq] at h
 have h1 : x[0] = x.data.toList[0]'(by rw [h]; simp) := by rw [Array.getElem_toList]; rfl
 rw [h1]
 simp only [h, List.getElem_cons_zero]
structure TI (b : Nat) (s : ByteArray) (m : Nat) (bad far : Bool) (w wr : World) (N0 N1 : Nat) (kd n x y : Int) : Prop where
 mv : Mv b w wr
 rr : RR b s m bad far wr
 hb : b < w.heap.size
 n0 : w.heap.size ≤ N0
 n1 : w.heap.size ≤ N1
 ne : N0 ≠ N1
 r0 : wr.heap[N0]? = some (.cells #[.int .u8 0, .int .i64 0, .int .i64 0, .int .i64 0] 173)
 r1 : wr.heap[N1]? = some (.cells #[.int .u8 kd, .int .i64 n, .int .i64 x, .int .i64 y] 173)
section
variable {b : Nat} {s : ByteArray} {m m' : Nat} {bad bad' far far' : Bool} {w wr wr' : World} {N0 N1 : Nat} {kd n x y : Int}
theorem TI.drewN (h : TI b s m bad far w wr N0 N1 kd n x y) (j : Nat) : TI b s m bad far w (wr.drewN j) N0 N1 kd n x y := ⟨h.mv.drewN j, h.rr, h.hb, h.n0, h.n1, h.ne, h.r0, h.r1⟩
theorem TI.moved (h : TI b s m bad far w wr N0 N1 kd n x y) (g : Mv b wr wr') (r : RR b s m' bad' far' wr') : TI b s m' bad' far' w wr' N0 N1 kd n x y :=
 ⟨h.mv.trans g, r, h.hb, h.n0, h.n1, h.ne, by rw [g.block _ (lt_of_block h.r0) (by have := h.n0; have := h.hb; omega)]; exact h.r0, by rw [g.block _ (lt_of_block h.r1) (by have := h.n1; have := h.hb; omega)]; exact h.r1⟩
theorem TI.setAt (h : TI b s m bad far w wr N0 N1 kd n x y) (j : Nat) : TI b s j bad far w (wr.setCell ⟨b, 1, none⟩ (.int .i64 (j : Int))) N0 N1 kd n x y := h.moved ((Mv.refl _ _).set _ _) (h.rr.setAt j)
theorem TI.setAt1 (h : TI b s m bad far w wr N0 N1 kd n x y) : TI b s (m + 1) bad far w (wr.setCell ⟨b, 1, none⟩ (.int .i64 ((m : Int) + 1))) N0 N1 kd n x y := by
 rw [show ((m : Int) + 1) = ((m + 1 : Nat) : Int) from by omega]; exact h.setAt (m + 1)
theorem TI.setBad (h : TI b s m bad far w wr N0 N1 kd n x y) (j : Bool) : TI b s m j far w (wr.setCell ⟨b, 2, none⟩ (.bool j)) N0 N1 kd n x y := h.moved ((Mv.refl _ _).set _ _) (h.rr.setBad j)
theorem TI.setAny (h : TI b s m bad far w wr N0 N1 kd n x y) (i : Nat) (v : Value) {kd' n' x' y' : Int} (hi : #[Value.int .u8 kd, .int .i64 n, .int .i64 x, .int .i64 y].setIfInBounds i v = #[.int .u8 kd', .int .i64 n', .int .i64 x', .int .i64 y']) : TI b s m bad far w (wr.setCell ⟨N1, i, none⟩ v) N0 N1 kd' n' x' y' :=
 ⟨h.mv.setNew (a := ⟨N1, i, none⟩) h.n1 v, h.rr.keep (Below.heap_setCell _ _ _ _ (by have := h.n1; have := h.hb; simp; omega)), h.hb, h.n0, h.n1, h.ne, by rw [Below.heap_setCell _ _ _ _ h.ne]; exact h.r0, by rw [heap_set_same h.r1, hi]⟩
theorem TI.set0 (h : TI b s m bad far w wr N0 N1 kd n x y) (v : Int) : TI b s m bad far w (wr.setCell ⟨N1, 0, none⟩ (.int .u8 v)) N0 N1 v n x y := h.setAny 0 _ rfl
theorem TI.set1 (h : TI b s m bad far w wr N0 N1 kd n x y) (v : Int) : TI b s m bad far w (wr.setCell ⟨N1, 1, none⟩ (.int .i64 v)) N0 N1 kd v x y := h.setAny 1 _ rfl
theorem TI.set2 (h : TI b s m bad far w wr N0 N1 kd n x y) (v : Int) : TI b s m bad far w (wr.setCell ⟨N1, 2, none⟩ (.int .i64 v)) N0 N1 kd n v y := h.setAny 2 _ rfl
theorem TI.set3 (h : TI b s m bad far w wr N0 N1 kd n x y) (v : Int) : TI b s m bad far w (wr.setCell ⟨N1, 3, none⟩ (.int .i64 v)) N0 N1 kd n x v := h.setAny 3 _ rfl
theorem TI.cells (h : TI b s m bad far w wr N0 N1 kd n x y) :
  wr.cell? ⟨N1, 0, none⟩ = some (.int .u8 kd) ∧ wr.cell? ⟨N1, 1, none⟩ = some (.int .i64 n) ∧ wr.cell? ⟨N1, 2, none⟩ = some (.int .i64 x) ∧ wr.cell? ⟨N1, 3, none⟩ = some (.int .i64 y) ∧
  wr.frozen? ⟨N1, 0, none⟩ = false ∧ wr.frozen? ⟨N1, 1, none⟩ = false ∧ wr.frozen? ⟨N1, 2, none⟩ = false ∧ wr.frozen? ⟨N1, 3, none⟩ = false := cells4 h.r1
theorem TI.cells0 (h : TI b s m bad far w wr N0 N1 kd n x y) :
  wr.cell? ⟨N0, 0, none⟩ = some (.int .u8 0) ∧ wr.cell? ⟨N0, 1, none⟩ = some (.int .i64 0) ∧ wr.cell? ⟨N0, 2, none⟩ = some (.int .i64 0) ∧ wr.cell? ⟨N0, 3, none⟩ = some (.int .i64 0) ∧
  wr.frozen? ⟨N0, 0, none⟩ = false ∧ wr.frozen? ⟨N0, 1, none⟩ = false ∧ wr.frozen? ⟨N0, 2, none⟩ = false ∧ wr.frozen? ⟨N0, 3, none⟩ = false := cells4 h.r0
theorem TI.done (h : TI b s m bad far w wr N0 N1 kd n x y) (v0 v1 v2 v3 : Value) :
  Mv b w ((((wr.setCell ⟨N0, 0, none⟩ v0).setCell ⟨N0, 1, none⟩ v1).setCell ⟨N0, 2, none⟩ v2).setCell ⟨N0, 3, none⟩ v3) ∧ RR b s m bad far ((((wr.setCell ⟨N0, 0, none⟩ v0).setCell ⟨N0, 1, none⟩ v1).setCell ⟨N0, 2, none⟩ v2).setCell ⟨N0, 3, none⟩ v3) := by
 have h0 := h.n0
 have hb := h.hb
 have hne : ∀ i : Nat, b ≠ (⟨N0, i, none⟩ : Addr).block := fun i => by simp; omega
 refine ⟨(((h.mv.setNew (a := ⟨N0, 0, none⟩) h0 v0).setNew (a := ⟨N0, 1, none⟩) h0 v1).setNew (a := ⟨N0, 2, none⟩) h0 v2).setNew (a := ⟨N0, 3, none⟩) h0 v3, h.rr.keep ?_⟩
 rw [Below.heap_setCell _ _ _ _ (hne 3), Below.heap_setCell _ _ _ _ (hne 2), Below.heap_setCell _ _ _ _ (hne 1), Below.heap_setCell _ _ _ _ (hne 0)]
theorem TI.start (hr : RR b s m bad far w) (o1 o2 : Obj) (e1 : o1 = .cells #[.int .u8 0, .int .i64 0, .int .i64 0, .int .i64 0] 173) (e2 : o2 = o1) : TI b s m bad far w ((w.alloc o1).alloc o2) w.heap.size (w.heap.size + 1) 0 0 0 0 := by
 subst e2
 have hl := hr.lt
 refine ⟨((Mv.refl _ _).alloc _).alloc _, hr.keep ?_, hl, Nat.le_refl _, by omega, by omega, ?_, ?_⟩
 ·rw [Below.heap_alloc _ _ _ (by simp; omega), Below.heap_alloc _ _ _ hl]
 ·rw [Below.heap_alloc _ _ _ (by simp), alloc_last, e1]
 ·have := alloc_last (w.alloc o2) o2
  rw [show (w.alloc o2).heap.size = w.heap.size + 1 by simp] at this
  rw [this, e1]
end
theorem low_not {s : ByteArray} {m : Nat} (h : isLow (byteAt s m) = false) : s.extract m (lowEnd s m) = ByteArray.empty := by
 rw [show lowEnd s m = m from skipTo_stop h, extract_self]
theorem empty_facts : ByteArray.empty.toList = [] := by first | rfl | decide | simp | (unfold ByteArray.toList ByteArray.toList.loop; rfl)
theorem not_low {s : ByteArray} {m : Nat} {c : Int} (h : inR s m c c = true) (hc : ¬ (97 ≤ c ∧ c ≤ 122)) : isLow (byteAt s m) = false := by
 rw [inR_one] at h
 simp only [decide_eq_true_eq] at h
 rw [h]; unfold isLow; simpa using hc
theorem inR_two {s : ByteArray} {m : Nat} {c d : Int} (h : inR s m c c = true) (hc : c ≠ d) : inR s m d d = false := by
 rw [inR_one] at h ⊢
 simp only [decide_eq_true_eq] at h
 rw [h]; simpa using hc
set_option maxHeartbeats 6400000 in
theorem rtest_any (b : Nat) (s : ByteArray) (k : Nat) (far : Bool) (w : World) (hr : RR b s k false far w) (hs : s.size ≤ 1000) (hk : k ≤ s.size) (hb : nextP s k = k) :
  Calls Tryz.prog 149 #[.pointer (some ⟨b, 0, none⟩)] w fun e w' => (∃ p, testR s k = .inl p ∧ (∃ a n x y, e = .returned (.agg #[.int .u8 a, .int .i64 n, .int .i64 x, .int .i64 y])) ∧ Mv b w w' ∧ ∃ far', RR b s p true far' w') ∨ (∃ t q, testR s k = .inr (t, q) ∧ e = .returned (rtv t) ∧ Mv b w w' ∧ RR b s (nextP s q) false (far || farT t) w') := by
 have hbl := hr.lt
 have HS := hide (TI.start hr _ _ rfl rfl)
 clear hr
 go_enter Tryz.func149, Tryz.ntmps149
 go_wp2_with fail
 go_loopg [] (s.size - k) (fun g wr => ∃ m n : Nat, m ≤ s.size ∧ n ≤ m ∧ g = s.size - m ∧ nextP s m = m ∧ bangs s (s.size - m) m n = bangs s (s.size - k) k 0 ∧ TI b s m false far w wr w.heap.size (w.heap.size + 1) 0 n 0 0)
 case atStart => exact ⟨k, 0, hk, by omega, rfl, hb, rfl, uh HS⟩
 case round =>
  obtain ⟨m, n, hm, hnm, hg, hmm, hB, hI⟩ := hrel
  clear HS
  have HI := hide hI
  have A : Aside (gk = s.size - m ∧ bangs s (s.size - m) m n = bangs s (s.size - k) k 0) := ⟨hg, hB⟩
  clear hg hB hI
  obtain ⟨c0, c1, c2, c3, f0, f1, f2, f3⟩ := (uh HI).cells
  obtain ⟨d0, d1, d2, d3, g0, g1, g2, g3⟩ := (uh HI).cells0
  cases h33 : inR s m 33 33 with
  | true =>
   have hlt := inR_lt (by omega) h33
   have hx := hv_yes h33 (by omega)
   have HX := hide hx
   have H33 := hide h33
   clear hx h33
   go_wp2_with (first | (go_at_call 121; refine (rhere_any _ _ m false far _ (by exact (uh HI).rr)).mono ?_; rintro e w' ⟨rfl, j, rfl⟩; rw [uh HX]))
   refine (rone_yes b s m 33 far _ (((uh HI).drewN _).set1 _).rr hs (by omega) (uh H33)).mono ?_
   rintro e w3 ⟨rfl, hm3, hr3⟩
   have HJ := hide ((((uh HI).drewN _).set1 _).moved hm3 hr3)
   clear hm3 hr3
   have hle : nextP s (m + 1) ≤ s.size := nextP_le (by omega)
   have hge := nextP_ge s (m + 1)
   go_wp2
   go_roundg (s.size - nextP s (m + 1))
   case measure => have := A.out.1; omega
   case rel =>
    obtain ⟨hg, hB⟩ := A.out
    refine ⟨nextP s (m + 1), n + 1, hle, by omega, rfl, nextP_idem (by omega), ?_, by rw [show ((n + 1 : Nat) : Int) = (n : Int) + 1 by omega]; exact uh HJ⟩
    rw [← hB, bangs_fuel s (s.size - nextP s (m + 1)) (s.size - (m + 1)) _ _ hle (by omega) (by omega), bangs_next (by omega)]
    obtain ⟨f, hf⟩ : ∃ f, s.size - m = f + 1 := ⟨s.size - m - 1, by omega⟩
    rw [hf, show s.size - (m + 1) = f by omega]
    simp only [bangs]
    rw [hmm, if_pos (uh H33)]
  | false =>
   have HT : Hid (∀ r, bareTestR s m = r → testR s k = wn n r) := hide (fun r hr => by
    have h := A.out.2
    rw [bangs_stop (by rw [hmm]; exact h33), hmm] at h
    unfold testR
    rw [← h]
    simp only
    rw [hr]
    cases r <;> rfl)
   cases h95 : inR s m 95 95 with
   | true =>
    have hlt := inR_lt (by omega) h95
    have hlow := not_low h95 (by omega)
    have hw0 : s.extract m (lowEnd s m) = ByteArray.empty := low_not hlow
    obtain ⟨x, hxe⟩ : ∃ x, x = ByteArray.empty := ⟨_, rfl⟩
    have e0 : x.toList.isEmpty = true := by rw [hxe, empty_facts]; rfl
    have e1 : (x.toList == [110, 111, 110, 101]) = false := by rw [hxe, empty_facts]; rfl
    have e2 : (x.toList == [99, 108, 97, 115, 104]) = false := by rw [hxe, empty_facts]; rfl
    have HW : Hid (s.extract m (lowEnd s m) = x) := hide (by rw [hw0, hxe])
    clear hw0 hxe
    have HX := hide (hv_yes h95 (by omega))
    have HF : Hid (bareTestR s m = .inr (⟨0, 0, 0, 0⟩, m + 1)) := hide (by unfold bareTestR; rw [hmm, if_pos h95])
    have H95 := hide h95
    clear h95 hlow h33
    go_wp2_with (first | (go_at_call 121; refine (rhere_any _ _ m false far _ (by exact (uh HI).rr)).mono ?_; rintro e w' ⟨rfl, j, rfl⟩; rw [uh HX]) | (go_at_call 95; refine (rword_ok _ _ m far _ (by exact (uh HI).rr) hs hm).mono ?_; rintro e w2' ⟨rfl, hw2⟩; rw [uh HW]; subst hw2))
    refine (rone_yes b s m 95 far _ (((uh HI).drewN _).set0 _).rr hs (by omega) (uh H95)).mono ?_
    rintro e w3 ⟨rfl, hm3, hr3⟩
    have HJ := hide ((((uh HI).drewN _).set0 _).moved hm3 hr3)
    clear c0 c1 c2 c3 f0 f1 f2 f3 d0 d1 d2 d3 g0 g1 g2 g3
    clear hm3 hr3 HI
    have HI := HJ
    clear HJ
    obtain ⟨c0, c1, c2, c3, f0, f1, f2, f3⟩ := (uh HI).cells
    obtain ⟨d0, d1, d2, d3, g0, g1, g2, g3⟩ := (uh HI).cells0
    go_wp2
    exact bodyPost_ret (v := .agg #[.int .u8 (95), .int .i64 ((n : Int)), .int .i64 (0), .int .i64 (0)]) (by simp [results, Tryz.results149, go_sem, d0, d1, d2, d3]) rfl (Or.inr ⟨⟨n, 0, 0, 0⟩, m + 1, uh HT _ (uh HF), rfl, ((uh HI).done _ _ _ _).1, by rw [show (far || farT ⟨n, 0, 0, 0⟩) = far from by cases far <;> rfl]; exact ((uh HI).done _ _ _ _).2⟩)
   | false =>
    cases h60 : inR s m 60 60 with
    | true =>
     have hlt := inR_lt (by omega) h60
     have hlow := not_low h60 (by omega)
     have hw0 : s.extract m (lowEnd s m) = ByteArray.empty := low_not hlow
     obtain ⟨x, hxe⟩ : ∃ x, x = ByteArray.empty := ⟨_, rfl⟩
     have e0 : x.toList.isEmpty = true := by rw [hxe, empty_facts]; rfl
     have e1 : (x.toList == [110, 111, 110, 101]) = false := by rw [hxe, empty_facts]; rfl
     have e2 : (x.toList == [99, 108, 97, 115, 104]) = false := by rw [hxe, empty_facts]; rfl
     have HW : Hid (s.extract m (lowEnd s m) = x) := hide (by rw [hw0, hxe])
     clear hw0 hxe
     have HX := hide (hv_yes h60 (by omega))
     have hk1 : nextP s (m + 1) ≤ s.size := nextP_le (by omega)
     have hbt : bareTestR s m = withNum 5 (numberR s (nextP s (m + 1))) := by
      unfold bareTestR; rw [hmm, if_neg (by rw [h95]; simp), if_pos h60, ← numberR_next (by omega)]
     have HC := hide h60
     have HBT := hide hbt
     clear h60 h95 hlow h33 hbt
     go_wp2_with (first | (go_at_call 121; refine (rhere_any _ _ m false far _ (by exact (uh HI).rr)).mono ?_; rintro e w' ⟨rfl, j, rfl⟩; rw [uh HX]) | (go_at_call 95; refine (rword_ok _ _ m far _ (by exact (uh HI).rr) hs hm).mono ?_; rintro e w2' ⟨rfl, hw2⟩; rw [uh HW]; subst hw2))
     refine (rone_yes b s m 60 far _ (((uh HI).drewN _).set0 _).rr hs (by omega) (uh HC)).mono ?_
     rintro e w3 ⟨rfl, hm3, hr3⟩
     have HJ := hide ((((uh HI).drewN _).set0 _).moved hm3 hr3)
     clear c0 c1 c2 c3 f0 f1 f2 f3 d0 d1 d2 d3 g0 g1 g2 g3
     clear hm3 hr3 HI
     have HI := HJ
     clear HJ
     obtain ⟨c0, c1, c2, c3, f0, f1, f2, f3⟩ := (uh HI).cells
     obtain ⟨d0, d1, d2, d3, g0, g1, g2, g3⟩ := (uh HI).cells0
     cases hnum : numberR s (nextP s (m + 1)) with
     | inl p =>
      have HF : Hid (bareTestR s m = .inl p) := hide (by rw [uh HBT, hnum]; rfl)
      have HNU := hide hnum
      clear hnum
      go_wp2_with fail
      refine (rnumber_no b s _ far _ (uh HI).rr hs hk1 (nextP_idem (by omega)) (uh HNU)).mono ?_
      rintro e w3 ⟨rfl, hm3, hr3⟩
      have HJ := hide ((uh HI).moved hm3 hr3)
      clear c0 c1 c2 c3 f0 f1 f2 f3 d0 d1 d2 d3 g0 g1 g2 g3
      clear hm3 hr3 HI
      have HI := HJ
      clear HJ
      obtain ⟨c0, c1, c2, c3, f0, f1, f2, f3⟩ := (uh HI).cells
      obtain ⟨d0, d1, d2, d3, g0, g1, g2, g3⟩ := (uh HI).cells0
      go_wp2
      have HJ := hide ((uh HI).set2 0)
      clear c0 c1 c2 c3 f0 f1 f2 f3 d0 d1 d2 d3 g0 g1 g2 g3 HI
      have HI := HJ
      obtain ⟨c0, c1, c2, c3, f0, f1, f2, f3⟩ := (uh HI).cells
      obtain ⟨d0, d1, d2, d3, g0, g1, g2, g3⟩ := (uh HI).cells0
      exact bodyPost_ret (v := .agg #[.int .u8 (60), .int .i64 ((n : Int)), .int .i64 (0), .int .i64 (0)]) (by simp [results, Tryz.results149, go_sem, d0, d1, d2, d3]) rfl (Or.inl ⟨p, uh HT _ (uh HF), ⟨_, _, _, _, rfl⟩, ((uh HI).done _ _ _ _).1, _, ((uh HI).done _ _ _ _).2⟩)
     | inr vq =>
      obtain ⟨v, q⟩ := vq
      have HF : Hid (bareTestR s m = .inr (⟨0, 5, v, 0⟩, q)) := hide (by rw [uh HBT, hnum]; rfl)
      have HNU := hide hnum
      clear hnum
      go_wp2_with fail
      refine (rnumber_yes b s _ far _ (uh HI).rr hs hk1 (nextP_idem (by omega)) (uh HNU)).mono ?_
      rintro e w3 ⟨rfl, hm3, hr3⟩
      have HJ := hide ((uh HI).moved hm3 hr3)
      clear c0 c1 c2 c3 f0 f1 f2 f3 d0 d1 d2 d3 g0 g1 g2 g3
      clear hm3 hr3 HI
      have HI := HJ
      clear HJ
      obtain ⟨c0, c1, c2, c3, f0, f1, f2, f3⟩ := (uh HI).cells
      obtain ⟨d0, d1, d2, d3, g0, g1, g2, g3⟩ := (uh HI).cells0
      go_wp2
      have HJ := hide ((uh HI).set2 v)
      clear c0 c1 c2 c3 f0 f1 f2 f3 d0 d1 d2 d3 g0 g1 g2 g3 HI
      have HI := HJ
      obtain ⟨c0, c1, c2, c3, f0, f1, f2, f3⟩ := (uh HI).cells
      obtain ⟨d0, d1, d2, d3, g0, g1, g2, g3⟩ := (uh HI).cells0
      exact bodyPost_ret (v := .agg #[.int .u8 (60), .int .i64 ((n : Int)), .int .i64 (v), .int .i64 (0)]) (by simp [results, Tryz.results149, go_sem, d0, d1, d2, d3]) rfl (Or.inr ⟨⟨n, 5, v, 0⟩, q, uh HT _ (uh HF), rfl, ((uh HI).done _ _ _ _).1, by rw [show (far || farT ⟨n, 5, v, 0⟩) = (far || farV v) from by simp [farT, farV]]; exact ((uh HI).done _ _ _ _).2⟩)
    | false =>
     cases h62 : inR s m 62 62 with
     | true =>
      have hlt := inR_lt (by omega) h62
      have hlow := not_low h62 (by omega)
      have hw0 : s.extract m (lowEnd s m) = ByteArray.empty := low_not hlow
      obtain ⟨x, hxe⟩ : ∃ x, x = ByteArray.empty := ⟨_, rfl⟩
      have e0 : x.toList.isEmpty = true := by rw [hxe, empty_facts]; rfl
      have e1 : (x.toList == [110, 111, 110, 101]) = false := by rw [hxe, empty_facts]; rfl
      have e2 : (x.toList == [99, 108, 97, 115, 104]) = false := by rw [hxe, empty_facts]; rfl
      have HW : Hid (s.extract m (lowEnd s m) = x) := hide (by rw [hw0, hxe])
      clear hw0 hxe
      have HX := hide (hv_yes h62 (by omega))
      have hk1 : nextP s (m + 1) ≤ s.size := nextP_le (by omega)
      have hbt : bareTestR s m = withNum 6 (numberR s (nextP s (m + 1))) := by
       unfold bareTestR; rw [hmm, if_neg (by rw [h95]; simp), if_neg (by rw [h60]; simp), if_pos h62, ← numberR_next (by omega)]
      have HC := hide h62
      have HBT := hide hbt
      clear h62 h95 h60 hlow h33 hbt
      go_wp2_with (first | (go_at_call 121; refine (rhere_any _ _ m false far _ (by exact (uh HI).rr)).mono ?_; rintro e w' ⟨rfl, j, rfl⟩; rw [uh HX]) | (go_at_call 95; refine (rword_ok _ _ m far _ (by exact (uh HI).rr) hs hm).mono ?_; rintro e w2' ⟨rfl, hw2⟩; rw [uh HW]; subst hw2))
      refine (rone_yes b s m 62 far _ (((uh HI).drewN _).set0 _).rr hs (by omega) (uh HC)).mono ?_
      rintro e w3 ⟨rfl, hm3, hr3⟩
      have HJ := hide ((((uh HI).drewN _).set0 _).moved hm3 hr3)
      clear c0 c1 c2 c3 f0 f1 f2 f3 d0 d1 d2 d3 g0 g1 g2 g3
      clear hm3 hr3 HI
      have HI := HJ
      clear HJ
      obtain ⟨c0, c1, c2, c3, f0, f1, f2, f3⟩ := (uh HI).cells
      obtain ⟨d0, d1, d2, d3, g0, g1, g2, g3⟩ := (uh HI).cells0
      cases hnum : numberR s (nextP s (m + 1)) with
      | inl p =>
       have HF : Hid (bareTestR s m = .inl p) := hide (by rw [uh HBT, hnum]; rfl)
       have HNU := hide hnum
       clear hnum
       go_wp2_with fail
       refine (rnumber_no b s _ far _ (uh HI).rr hs hk1 (nextP_idem (by omega)) (uh HNU)).mono ?_
       rintro e w3 ⟨rfl, hm3, hr3⟩
       have HJ := hide ((uh HI).moved hm3 hr3)
       clear c0 c1 c2 c3 f0 f1 f2 f3 d0 d1 d2 d3 g0 g1 g2 g3
       clear hm3 hr3 HI
       have HI := HJ
       clear HJ
       obtain ⟨c0, c1, c2, c3, f0, f1, f2, f3⟩ := (uh HI).cells
       obtain ⟨d0, d1, d2, d3, g0, g1, g2, g3⟩ := (uh HI).cells0
       go_wp2
       have HJ := hide ((uh HI).set2 0)
       clear c0 c1 c2 c3 f0 f1 f2 f3 d0 d1 d2 d3 g0 g1 g2 g3 HI
       have HI := HJ
       obtain ⟨c0, c1, c2, c3, f0, f1, f2, f3⟩ := (uh HI).cells
       obtain ⟨d0, d1, d2, d3, g0, g1, g2, g3⟩ := (uh HI).cells0
       exact bodyPost_ret (v := .agg #[.int .u8 (62), .int .i64 ((n : Int)), .int .i64 (0), .int .i64 (0)]) (by simp [results, Tryz.results149, go_sem, d0, d1, d2, d3]) rfl (Or.inl ⟨p, uh HT _ (uh HF), ⟨_, _, _, _, rfl⟩, ((uh HI).done _ _ _ _).1, _, ((uh HI).done _ _ _ _).2⟩)
      | inr vq =>
       obtain ⟨v, q⟩ := vq
       have HF : Hid (bareTestR s m = .inr (⟨0, 6, v, 0⟩, q)) := hide (by rw [uh HBT, hnum]; rfl)
       have HNU := hide hnum
       clear hnum
       go_wp2_with fail
       refine (rnumber_yes b s _ far _ (uh HI).rr hs hk1 (nextP_idem (by omega)) (uh HNU)).mono ?_
       rintro e w3 ⟨rfl, hm3, hr3⟩
       have HJ := hide ((uh HI).moved hm3 hr3)
       clear c0 c1 c2 c3 f0 f1 f2 f3 d0 d1 d2 d3 g0 g1 g2 g3
       clear hm3 hr3 HI
       have HI := HJ
       clear HJ
       obtain ⟨c0, c1, c2, c3, f0, f1, f2, f3⟩ := (uh HI).cells
       obtain ⟨d0, d1, d2, d3, g0, g1, g2, g3⟩ := (uh HI).cells0
       go_wp2
       have HJ := hide ((uh HI).set2 v)
       clear c0 c1 c2 c3 f0 f1 f2 f3 d0 d1 d2 d3 g0 g1 g2 g3 HI
       have HI := HJ
       obtain ⟨c0, c1, c2, c3, f0, f1, f2, f3⟩ := (uh HI).cells
       obtain ⟨d0, d1, d2, d3, g0, g1, g2, g3⟩ := (uh HI).cells0
       exact bodyPost_ret (v := .agg #[.int .u8 (62), .int .i64 ((n : Int)), .int .i64 (v), .int .i64 (0)]) (by simp [results, Tryz.results149, go_sem, d0, d1, d2, d3]) rfl (Or.inr ⟨⟨n, 6, v, 0⟩, q, uh HT _ (uh HF), rfl, ((uh HI).done _ _ _ _).1, by rw [show (far || farT ⟨n, 6, v, 0⟩) = (far || farV v) from by simp [farT, farV]]; exact ((uh HI).done _ _ _ _).2⟩)
     | false =>
      cases hlow : isLow (byteAt s m) with
      | true =>
       have hlt : m < s.size := by
        rcases Nat.lt_or_ge m s.size with h | h
        ·exact h
        ·rw [byteAt_out h] at hlow; cases hlow
       have c33 := hv_ne (c := 33) (by omega) h33
       have c95 := hv_ne (c := 95) (by omega) h95
       have c60 := hv_ne (c := 60) (by omega) h60
       have c62 := hv_ne (c := 62) (by omega) h62
       generalize hx : hv s m false = c at *
       have HX := hide hx
       clear hx
       obtain ⟨x, hxe⟩ : ∃ x, x = s.extract m (lowEnd s m) := ⟨_, rfl⟩
       have HW : Hid (s.extract m (lowEnd s m) = x) := hide hxe.symm
       have hge1 : m + 1 ≤ lowEnd s m := by
        have : lowEnd s m = lowEnd s (m + 1) := skipTo_step hlt hlow
        rw [this]; exact lowEnd_ge s (m + 1)
       have hsz1 : x.size ≠ 0 := by rw [hxe, ext_size (by omega) (lowEnd_le hm)]; omega
       have e0 : x.toList.isEmpty = false := by
        cases h : x.toList.isEmpty with
        | false => rfl
        | true =>
         exfalso
         have h2 : x.toList = [] := by simpa using h
         apply hsz1
         have h3 : x.toList.length = x.size := toList_len x
         rw [← h3, h2]; rfl
       clear hxe hge1 hsz1
       cases e1 : (x.toList == [110, 111, 110, 101]) with
       | true =>
        have hxl : x.toList = [110, 111, 110, 101] := by simpa using e1
        have hxs : x.size = 4 := by
         have h3 : x.toList.length = x.size := toList_len x
         rw [← h3, hxl]; rfl
        have hx0 : 0 < x.size := by omega
        have hxv : (x[0].toNat : Int) = 110 := byte0_of hxl hx0
        have hps : m + x.size = lowEnd s m := by rw [← uh HW, ext_size (lowEnd_ge s m) (lowEnd_le hm)]; have := lowEnd_ge s m; omega
        have hle := lowEnd_le hm
        have HF : Hid (bareTestR s m = .inr (⟨0, 1, 0, 0⟩, lowEnd s m)) := hide (by unfold bareTestR; rw [hmm, if_neg (by rw [h95]; simp), if_neg (by rw [h60]; simp), if_neg (by rw [h62]; simp), if_pos (by rw [inR_low]; exact hlow)]; unfold wordTestR; rw [hmm, uh HW, if_pos e1])
        clear h95 h60 h62 h33 hlow hxl
        go_wp2_with (first | (go_at_call 121; refine (rhere_any _ _ m false far _ (by exact (uh HI).rr)).mono ?_; rintro e w' ⟨rfl, j, rfl⟩; rw [uh HX]) | (go_at_call 95; refine (rword_ok _ _ m far _ (by exact (uh HI).rr) hs hm).mono ?_; rintro e w2' ⟨rfl, hw2⟩; rw [uh HW]; subst hw2))
        refine (rpass_ok b s m x far _ (((uh HI).drewN _).set0 _).rr hs (by omega)).mono ?_
        rintro e w3 ⟨rfl, hm3, hr3⟩
        have HJ0 := (((uh HI).drewN _).set0 _).moved hm3 hr3
        rw [hps] at HJ0
        have HJ := hide HJ0
        clear HJ0 hm3 hr3
        clear c0 c1 c2 c3 f0 f1 f2 f3 d0 d1 d2 d3 g0 g1 g2 g3 HI
        have HI := HJ
        clear HJ
        obtain ⟨c0, c1, c2, c3, f0, f1, f2, f3⟩ := (uh HI).cells
        obtain ⟨d0, d1, d2, d3, g0, g1, g2, g3⟩ := (uh HI).cells0
        go_wp2
        exact bodyPost_ret (v := .agg #[.int .u8 (110), .int .i64 ((n : Int)), .int .i64 (0), .int .i64 (0)]) (by simp [results, Tryz.results149, go_sem, d0, d1, d2, d3]) rfl (Or.inr ⟨⟨n, 1, 0, 0⟩, lowEnd s m, uh HT _ (uh HF), rfl, ((uh HI).done _ _ _ _).1, by rw [show (far || farT ⟨n, 1, 0, 0⟩) = far from by cases far <;> rfl]; exact ((uh HI).done _ _ _ _).2⟩)
       | false =>
        cases e2 : (x.toList == [99, 108, 97, 115, 104]) with
        | true =>
         have hxl : x.toList = [99, 108, 97, 115, 104] := by simpa using e2
         have hxs : x.size = 5 := by
          have h3 : x.toList.length = x.size := toList_len x
          rw [← h3, hxl]; rfl
         have hx0 : 0 < x.size := by omega
         have hxv : (x[0].toNat : Int) = 99 := byte0_of hxl hx0
         have hps : m + x.size = lowEnd s m := by rw [← uh HW, ext_size (lowEnd_ge s m) (lowEnd_le hm)]; have := lowEnd_ge s m; omega
         have hle := lowEnd_le hm
         have HF : Hid (bareTestR s m = .inr (⟨0, 2, 0, 0⟩, lowEnd s m)) := hide (by unfold bareTestR; rw [hmm, if_neg (by rw [h95]; simp), if_neg (by rw [h60]; simp), if_neg (by rw [h62]; simp), if_pos (by rw [inR_low]; exact hlow)]; unfold wordTestR; rw [hmm, uh HW, if_neg (by rw [e1]; simp), if_pos e2])
         clear h95 h60 h62 h33 hlow hxl
         go_wp2_with (first | (go_at_call 121; refine (rhere_any _ _ m false far _ (by exact (uh HI).rr)).mono ?_; rintro e w' ⟨rfl, j, rfl⟩; rw [uh HX]) | (go_at_call 95; refine (rword_ok _ _ m far _ (by exact (uh HI).rr) hs hm).mono ?_; rintro e w2' ⟨rfl, hw2⟩; rw [uh HW]; subst hw2))
         refine (rpass_ok b s m x far _ (((uh HI).drewN _).set0 _).rr hs (by omega)).mono ?_
         rintro e w3 ⟨rfl, hm3, hr3⟩
         have HJ0 := (((uh HI).drewN _).set0 _).moved hm3 hr3
         rw [hps] at HJ0
         have HJ := hide HJ0
         clear HJ0 hm3 hr3
         clear c0 c1 c2 c3 f0 f1 f2 f3 d0 d1 d2 d3 g0 g1 g2 g3 HI
         have HI := HJ
         clear HJ
         obtain ⟨c0, c1, c2, c3, f0, f1, f2, f3⟩ := (uh HI).cells
         obtain ⟨d0, d1, d2, d3, g0, g1, g2, g3⟩ := (uh HI).cells0
         go_wp2
         exact bodyPost_ret (v := .agg #[.int .u8 (99), .int .i64 ((n : Int)), .int .i64 (0), .int .i64 (0)]) (by simp [results, Tryz.results149, go_sem, d0, d1, d2, d3]) rfl (Or.inr ⟨⟨n, 2, 0, 0⟩, lowEnd s m, uh HT _ (uh HF), rfl, ((uh HI).done _ _ _ _).1, by rw [show (far || farT ⟨n, 2, 0, 0⟩) = far from by cases far <;> rfl]; exact ((uh HI).done _ _ _ _).2⟩)
        | false =>
         have HF : Hid (bareTestR s m = .inl m) := hide (by unfold bareTestR; rw [hmm, if_neg (by rw [h95]; simp), if_neg (by rw [h60]; simp), if_neg (by rw [h62]; simp), if_pos (by rw [inR_low]; exact hlow)]; unfold wordTestR; rw [hmm, uh HW, if_neg (by rw [e1]; simp), if_neg (by rw [e2]; simp)])
         clear h95 h60 h62 h33 hlow
         have b2 := (uh HI).rr.badC
         have q2 := (uh HI).rr.free 2
         go_wp2_with (first | (go_at_call 121; refine (rhere_any _ _ m false far _ (by exact (uh HI).rr)).mono ?_; rintro e w' ⟨rfl, j, rfl⟩; rw [uh HX]) | (go_at_call 95; refine (rword_ok _ _ m far _ (by exact (uh HI).rr) hs hm).mono ?_; rintro e w2' ⟨rfl, hw2⟩; rw [uh HW]; subst hw2))
         exact bodyPost_ret (v := .agg #[.int .u8 (0), .int .i64 ((n : Int)), .int .i64 (0), .int .i64 (0)]) (by simp [results, Tryz.results149, go_sem, d0, d1, d2, d3]) rfl (Or.inl ⟨m, uh HT _ (uh HF), ⟨_, _, _, _, rfl⟩, ((((uh HI).drewN _).setBad true).done _ _ _ _).1, _, ((((uh HI).drewN _).setBad true).done _ _ _ _).2⟩)
      | false =>
       have c33 := hv_ne (c := 33) (by omega) h33
       have c95 := hv_ne (c := 95) (by omega) h95
       have c60 := hv_ne (c := 60) (by omega) h60
       have c62 := hv_ne (c := 62) (by omega) h62
       generalize hx : hv s m false = c at *
       have HX := hide hx
       clear hx
       have hw0 : s.extract m (lowEnd s m) = ByteArray.empty := low_not hlow
       obtain ⟨x, hxe⟩ : ∃ x, x = ByteArray.empty := ⟨_, rfl⟩
       have e0 : x.toList.isEmpty = true := by rw [hxe, empty_facts]; rfl
       have e1 : (x.toList == [110, 111, 110, 101]) = false := by rw [hxe, empty_facts]; rfl
       have e2 : (x.toList == [99, 108, 97, 115, 104]) = false := by rw [hxe, empty_facts]; rfl
       have HW : Hid (s.extract m (lowEnd s m) = x) := hide (by rw [hw0, hxe])
       clear hw0 hxe
       have HBT : Hid (bareTestR s m = numberTestR s m) := hide (by unfold bareTestR; rw [hmm, if_neg (by rw [h95]; simp), if_neg (by rw [h60]; simp), if_neg (by rw [h62]; simp), if_neg (by rw [inR_low, hlow]; simp)])
       clear h95 h60 h62 h33 hlow
       have b2 := (uh HI).rr.badC
       have q2 := (uh HI).rr.free 2
       cases hnum : numberR s m with
       | inl p =>
        have HF : Hid (bareTestR s m = .inl p) := hide (by rw [uh HBT]; unfold numberTestR; rw [hnum])
        have HNU := hide hnum
        clear hnum
        go_wp2_with (first | (go_at_call 121; refine (rhere_any _ _ m false far _ (by exact (uh HI).rr)).mono ?_; rintro e w' ⟨rfl, j, rfl⟩; rw [uh HX]) | (go_at_call 95; refine (rword_ok _ _ m far _ (by exact (uh HI).rr) hs hm).mono ?_; rintro e w2' ⟨rfl, hw2⟩; rw [uh HW]; subst hw2))
        refine (rnumber_no b s m far _ (((uh HI).drewN _).set0 _).rr hs hm hmm (uh HNU)).mono ?_
        rintro e w3 ⟨rfl, hm3, hr3⟩
        have HJ := hide ((((uh HI).drewN _).set0 _).moved hm3 hr3)
        clear c0 c1 c2 c3 f0 f1 f2 f3 d0 d1 d2 d3 g0 g1 g2 g3
        clear hm3 hr3 HI
        have HI := HJ
        clear HJ
        obtain ⟨c0, c1, c2, c3, f0, f1, f2, f3⟩ := (uh HI).cells
        obtain ⟨d0, d1, d2, d3, g0, g1, g2, g3⟩ := (uh HI).cells0
        go_wp2_with (go_at_call 121; refine (rhere_any _ _ p true far _ (by exact ((uh HI).set2 _).rr)).mono ?_; rintro e w' ⟨rfl, j, rfl⟩; rw [hv_bad])
        exact bodyPost_ret (v := .agg #[.int .u8 (61), .int .i64 ((n : Int)), .int .i64 (0), .int .i64 (0)]) (by simp [results, Tryz.results149, go_sem, d0, d1, d2, d3]) rfl (Or.inl ⟨p, uh HT _ (uh HF), ⟨_, _, _, _, rfl⟩, ((((uh HI).set2 0).drewN _).done _ _ _ _).1, _, ((((uh HI).set2 0).drewN _).done _ _ _ _).2⟩)
       | inr vq =>
        obtain ⟨v, q⟩ := vq
        have hqb := (numberR_bd hm hnum).2.2
        have hpq := nextP_le hqb
        have hpp := nextP_idem hqb
        have HNU := hide hnum
        have HBT2 : Hid (bareTestR s m = if inR s (nextP s q) 46 46 then (if inR s (nextP s q + 1) 46 46 then (match numberR s (nextP s q + 1 + 1) with | .inl p => .inl p | .inr (hi, r) => .inr (⟨0, 4, v, hi⟩, r)) else .inl (nextP s q + 1)) else .inr (⟨0, 3, v, 0⟩, nextP s q)) := hide (by rw [uh HBT]; unfold numberTestR; rw [hnum]; rfl)
        clear hnum HBT
        go_wp2_with (first | (go_at_call 121; refine (rhere_any _ _ m false far _ (by exact (uh HI).rr)).mono ?_; rintro e w' ⟨rfl, j, rfl⟩; rw [uh HX]) | (go_at_call 95; refine (rword_ok _ _ m far _ (by exact (uh HI).rr) hs hm).mono ?_; rintro e w2' ⟨rfl, hw2⟩; rw [uh HW]; subst hw2))
        refine (rnumber_yes b s m far _ (((uh HI).drewN _).set0 _).rr hs hm hmm (uh HNU)).mono ?_
        rintro e w3 ⟨rfl, hm3, hr3⟩
        have HJ := hide ((((uh HI).drewN _).set0 _).moved hm3 hr3)
        clear c0 c1 c2 c3 f0 f1 f2 f3 d0 d1 d2 d3 g0 g1 g2 g3
        clear hm3 hr3 HI
        have HI := HJ
        clear HJ
        obtain ⟨c0, c1, c2, c3, f0, f1, f2, f3⟩ := (uh HI).cells
        obtain ⟨d0, d1, d2, d3, g0, g1, g2, g3⟩ := (uh HI).cells0
        clear b2 q2 HX
        generalize hm2 : nextP s q = m2 at *
        have HM2 := hide hm2
        clear hm2
        cases h46 : inR s m2 46 46 with
        | false =>
         have c46 := hv_ne (c := 46) (by omega) h46
         generalize hx : hv s m2 false = z2 at *
         have HX := hide hx
         clear hx
         have HF : Hid (bareTestR s m = .inr (⟨0, 3, v, 0⟩, m2)) := hide (by rw [uh HBT2, h46]; rfl)
         clear h46
         go_wp2_with (go_at_call 121; refine (rhere_any _ _ m2 false _ _ (by exact ((uh HI).set2 _).rr)).mono ?_; rintro e w' ⟨rfl, j, rfl⟩; rw [uh HX])
         exact bodyPost_ret (v := .agg #[.int .u8 (61), .int .i64 ((n : Int)), .int .i64 (v), .int .i64 (0)]) (by simp [results, Tryz.results149, go_sem, d0, d1, d2, d3]) rfl (Or.inr ⟨⟨n, 3, v, 0⟩, m2, uh HT _ (uh HF), rfl, ((((uh HI).set2 v).drewN _).done _ _ _ _).1, by rw [hpp, show (far || farT ⟨n, 3, v, 0⟩) = (far || farV v) from by simp [farT, farV]]; exact ((((uh HI).set2 v).drewN _).done _ _ _ _).2⟩)
        | true =>
         have hlt2 := inR_lt (by omega) h46
         have HX := hide (hv_yes h46 (by omega))
         cases h47 : inR s (m2 + 1) 46 46 with
         | false =>
          have c47 := hv_ne (c := 46) (by omega) h47
          generalize hy : hv s (m2 + 1) false = z3 at *
          have HY := hide hy
          clear hy
          have HF : Hid (bareTestR s m = .inl (m2 + 1)) := hide (by rw [uh HBT2, h46, h47]; rfl)
          clear h46 h47
          have b1 := (uh HI).rr.at
          have q1 := (uh HI).rr.free 1
          have b2 := (uh HI).rr.badC
          have q2 := (uh HI).rr.free 2
          go_wp2_with (first | (go_at_call 121; refine (rhere_any _ _ m2 false _ _ (by exact ((uh HI).set2 _).rr)).mono ?_; rintro e w' ⟨rfl, j, rfl⟩; rw [uh HX]) | (go_at_call 121; refine (rhere_any _ _ (m2 + 1) false _ _ (by exact ((((uh HI).set2 _).drewN _).set0 _).setAt1.rr)).mono ?_; rintro e w' ⟨rfl, j, rfl⟩; rw [uh HY]))
          exact bodyPost_ret (v := .agg #[.int .u8 (46), .int .i64 ((n : Int)), .int .i64 (v), .int .i64 (0)]) (by simp [results, Tryz.results149, go_sem, d0, d1, d2, d3]) rfl (Or.inl ⟨m2 + 1, uh HT _ (uh HF), ⟨_, _, _, _, rfl⟩, ((((((((uh HI).set2 v).drewN _).set0 46).setAt1).drewN _).setBad true).done _ _ _ _).1, _, ((((((((uh HI).set2 v).drewN _).set0 46).setAt1).drewN _).setBad true).done _ _ _ _).2⟩)
         | true =>
          have hlt3 := inR_lt (by omega) h47
          have HY := hide (hv_yes h47 (by omega))
          have H47 := hide h47
          have hk3 : nextP s (m2 + 1 + 1) ≤ s.size := nextP_le (by omega)
          have hnn : numberR s (nextP s (m2 + 1 + 1)) = numberR s (m2 + 1 + 1) := numberR_next (by omega)
          have HBT3 : Hid (bareTestR s m = match numberR s (nextP s (m2 + 1 + 1)) with | .inl p => .inl p | .inr (hi, r) => .inr (⟨0, 4, v, hi⟩, r)) := hide (by rw [uh HBT2, h46, h47, hnn]; rfl)
          clear h46 h47 hnn HBT2
          have b1 := (uh HI).rr.at
          have q1 := (uh HI).rr.free 1
          have b2 := (uh HI).rr.badC
          have q2 := (uh HI).rr.free 2
          go_wp2_with (first | (go_at_call 121; refine (rhere_any _ _ m2 false _ _ (by exact ((uh HI).set2 _).rr)).mono ?_; rintro e w' ⟨rfl, j, rfl⟩; rw [uh HX]) | (go_at_call 121; refine (rhere_any _ _ (m2 + 1) false _ _ (by exact ((((uh HI).set2 _).drewN _).set0 _).setAt1.rr)).mono ?_; rintro e w' ⟨rfl, j, rfl⟩; rw [uh HY]))
          clear b1 q1 b2 q2
          refine (rone_yes b s (m2 + 1) 46 _ _ ((((((uh HI).set2 v).drewN _).set0 46).setAt1).drewN _).rr hs (by omega) (uh H47)).mono ?_
          rintro e w3 ⟨rfl, hm3, hr3⟩
          have HJ := hide (((((((uh HI).set2 v).drewN _).set0 46).setAt1).drewN _).moved hm3 hr3)
          clear c0 c1 c2 c3 f0 f1 f2 f3 d0 d1 d2 d3 g0 g1 g2 g3
          clear hm3 hr3 HI
          have HI := HJ
          clear HJ
          obtain ⟨c0, c1, c2, c3, f0, f1, f2, f3⟩ := (uh HI).cells
          obtain ⟨d0, d1, d2, d3, g0, g1, g2, g3⟩ := (uh HI).cells0
          cases hnum2 : numberR s (nextP s (m2 + 1 + 1)) with
          | inl p =>
           have HF : Hid (bareTestR s m = .inl p) := hide (by rw [uh HBT3, hnum2])
           have HNU2 := hide hnum2
           clear hnum2 HBT3
           go_wp2_with fail
           refine (rnumber_no b s _ _ _ (uh HI).rr hs hk3 (nextP_idem (by omega)) (uh HNU2)).mono ?_
           rintro e w3 ⟨rfl, hm3, hr3⟩
           have HJ := hide ((uh HI).moved hm3 hr3)
           clear c0 c1 c2 c3 f0 f1 f2 f3 d0 d1 d2 d3 g0 g1 g2 g3
           clear hm3 hr3 HI
           have HI := HJ
           clear HJ
           obtain ⟨c0, c1, c2, c3, f0, f1, f2, f3⟩ := (uh HI).cells
           obtain ⟨d0, d1, d2, d3, g0, g1, g2, g3⟩ := (uh HI).cells0
           go_wp2
           exact bodyPost_ret (v := .agg #[.int .u8 (46), .int .i64 ((n : Int)), .int .i64 (v), .int .i64 (0)]) (by simp [results, Tryz.results149, go_sem, d0, d1, d2, d3]) rfl (Or.inl ⟨p, uh HT _ (uh HF), ⟨_, _, _, _, rfl⟩, (((uh HI).set3 0).done _ _ _ _).1, _, (((uh HI).set3 0).done _ _ _ _).2⟩)
          | inr vq2 =>
           obtain ⟨v2, q2⟩ := vq2
           have HF : Hid (bareTestR s m = .inr (⟨0, 4, v, v2⟩, q2)) := hide (by rw [uh HBT3, hnum2])
           have HNU2 := hide hnum2
           clear hnum2 HBT3
           go_wp2_with fail
           refine (rnumber_yes b s _ _ _ (uh HI).rr hs hk3 (nextP_idem (by omega)) (uh HNU2)).mono ?_
           rintro e w3 ⟨rfl, hm3, hr3⟩
           have HJ := hide ((uh HI).moved hm3 hr3)
           clear c0 c1 c2 c3 f0 f1 f2 f3 d0 d1 d2 d3 g0 g1 g2 g3
           clear hm3 hr3 HI
           have HI := HJ
           clear HJ
           obtain ⟨c0, c1, c2, c3, f0, f1, f2, f3⟩ := (uh HI).cells
           obtain ⟨d0, d1, d2, d3, g0, g1, g2, g3⟩ := (uh HI).cells0
           go_wp2
           exact bodyPost_ret (v := .agg #[.int .u8 (46), .int .i64 ((n : Int)), .int .i64 (v), .int .i64 (v2)]) (by simp [results, Tryz.results149, go_sem, d0, d1, d2, d3]) rfl (Or.inr ⟨⟨n, 4, v, v2⟩, q2, uh HT _ (uh HF), rfl, (((uh HI).set3 v2).done _ _ _ _).1, by rw [show (far || farT ⟨n, 4, v, v2⟩) = (far || farV v || farV v2) from by simp [farT, Bool.or_assoc]]; exact (((uh HI).set3 v2).done _ _ _ _).2⟩)
end Go.Proofs.YtdgbmcbkbkbdoaaGreatDoor
