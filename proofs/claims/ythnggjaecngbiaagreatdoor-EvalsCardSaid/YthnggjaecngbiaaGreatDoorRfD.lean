import Derived.Test.YthnggjaecngbiaaGreatDoorExC
namespace Go.Proofs.YthnggjaecngbiaaGreatDoor
open Go.RowKit
def farV (v : Int) : Bool := decide (1000000 < v ∨ v < -1000000)
theorem digV_lt {s : ByteArray} {k m : Nat} (hkm : k ≤ m) (hlt : m < s.size) : digV s k (m + 1 - k) = 10 * digV s k (m - k) + ((s[m].toNat : Int) - 48) := by
 rw [show m + 1 - k = (m - k) + 1 by omega]
 simp only [digV]
 rw [show k + (m - k) = m by omega, byteAt_in hlt]
def negRes (t : Bool) : Res Int → Res Int
 | .inl p => .inl p
 | .inr (v, q) => .inr (neg t v, q)
set_option maxHeartbeats 3200000 in
theorem rnumber_any (b : Nat) (s : ByteArray) (k : Nat) (far : Bool) (w : World) (hr : RR b s k false far w) (hs : s.size ≤ 1000) (hk : k ≤ s.size) (hb : nextP s k = k) :
  Calls Tryz.prog 169 #[.pointer (some ⟨b, 0, none⟩)] w fun e w' => (∃ p, numberR s k = .inl p ∧ e = .returned (.int .i64 0) ∧ Mv b w w' ∧ RR b s p true far w') ∨ (∃ v q, numberR s k = .inr (v, q) ∧ e = .returned (.int .i64 v) ∧ Mv b w w' ∧ RR b s (nextP s q) false (far || farV v) w') := by
 have h1 := hr.at
 have hf1 := hr.free 1
 have H := hide hr
 clear hr
 obtain ⟨p, hp⟩ : ∃ p, p = numAt s k := ⟨_, rfl⟩
 have hpe : p = adv (inR s k 45 45) k := by rw [hp]; unfold numAt; rw [hb]
 have hple : p ≤ s.size := by rw [hpe]; exact adv_le hk (by omega)
 have HN : Hid (∀ d, digitsR s p = d → numberR s k = negRes (inR s k 45 45) d) := hide (fun d hd => by unfold numberR; rw [← hp, hd, hb]; cases d <;> rfl)
 clear hp
 cases hneg : inR s k 45 45 with
 | true =>
  have hlt0 := inR_lt (by omega) hneg
  rw [hneg] at hpe HN
  have HX := hide (hv_yes hneg (by omega))
  clear hneg
  go_enter Tryz.func169, Tryz.ntmps169
  go_wp2_with (go_at_call 137; refine (rhere_any _ _ k false far _ (by exact uh H)).mono ?_; rintro e w' ⟨rfl, n, rfl⟩; rw [uh HX])
  have HR : Hid (Mv b w ((w.drewN n).setCell ⟨b, 1, none⟩ (.int .i64 ((k : Int) + 1))) ∧ RR b s p false far ((w.drewN n).setCell ⟨b, 1, none⟩ (.int .i64 ((k : Int) + 1)))) := hide ⟨((Mv.refl b w).drewN n).set _ _, by
   have : p = k + 1 := hpe
   subst this
   rw [show ((k : Int) + 1) = ((k + 1 : Nat) : Int) from by omega]
   exact ((uh H).drewN n).setAt (k + 1)⟩
  clear HX
  clear H h1 hf1 hpe
  go_loopg [4, 5] (s.size - p) (fun g nv kv wr => ∃ m, p ≤ m ∧ m ≤ s.size ∧ m - p ≤ 7 ∧ g = s.size - m ∧ digEnd s m = digEnd s p ∧ (∀ j, j < m - p → isDig (byteAt s (p + j)) = true) ∧ nv = .int .i64 (digV s p (m - p)) ∧ kv = .int .i64 ((m - p : Nat) : Int) ∧ Mv b w wr ∧ RR b s m false far wr)
  case atStart => exact ⟨p, Nat.le_refl _, hple, by omega, rfl, rfl, by omega, by rw [Nat.sub_self]; rfl, by rw [Nat.sub_self]; rfl, (uh HR).1, (uh HR).2⟩
  case round =>
   obtain ⟨m, hpm, hm, h7, hg, hn, hd, rfl, rfl, hmv, hrd⟩ := hrel
   clear HR
   have h0 := hrd.text
   have h1 := hrd.at
   have h2 := hrd.badC
   have h3 := hrd.farC
   have hf1 := hrd.free 1
   have hf2 := hrd.free 2
   have hf3 := hrd.free 3
   have hv7 := digV_seven h7 hd
   obtain ⟨hv0, hv9⟩ := hv7
   have A : Aside (gk = s.size - m ∧ digEnd s m = digEnd s p ∧ (∀ j, j < m - p → isDig (byteAt s (p + j)) = true) ∧ Mv b w wr ∧ RR b s m false far wr) := ⟨hg, hn, hd, hmv, hrd⟩
   clear hg hn hmv hrd hd
   cases hdig : isDig (byteAt s m) with
   | true =>
    have hlt : m < s.size := by
     rcases Nat.lt_or_ge m s.size with h | h
     ·exact h
     ·rw [byteAt_out h] at hdig; cases hdig
    have hbd := isDig_bd hdig
    rw [byteAt_in hlt] at hbd
    obtain ⟨hb1, hb2⟩ := hbd
    have HB := hide hdig
    have HX := hide (hv_in hlt)
    have HD : Hid (isDig (s[m].toNat : Int) = true) := hide (by rw [← byteAt_in hlt]; exact hdig)
    clear hdig
    by_cases h8 : m - p = 7
    ·have h8b : (((m - p : Nat) : Int) == 7) = true := by rw [beq_iff_eq]; omega
     have H8 := hide h8
     clear h8
     go_wp2_with (first | (go_at_call 137; refine (rhere_any _ _ m false _ _ (by exact A.out.2.2.2.2)).mono ?_; rintro e w' ⟨rfl, n, rfl⟩; rw [uh HX]) | (go_at_call 192; refine (rdigit_any _ _).mono ?_; rintro e w2' ⟨rfl, hw2⟩; rw [uh HD]; subst hw2))
     go_ret
     obtain ⟨hg, hn, hd, hmv, hrd⟩ := A.out
     have h9 := uh H8
     have : digEnd s (m + 1) = digEnd s p := by rw [← hn]; exact (skipTo_step hlt (uh HB)).symm
     have h10 := digEnd_ge s (m + 1)
     have e1 : digitsR s p = .inl m := by unfold digitsR; rw [if_pos (by omega), show p + 7 = m by omega]
     refine Or.inl ⟨m, uh HN _ e1, rfl, ?_, ?_⟩
     ·exact (hmv.drewN _).set _ _
     ·exact (hrd.drewN _).setBad true
    ·have h8b : (((m - p : Nat) : Int) == 7) = false := by rw [beq_eq_false_iff_ne]; omega
     have H8 := hide h8
     clear h8
     go_wp2_with (first | (go_at_call 137; refine (rhere_any _ _ m false _ _ (by exact A.out.2.2.2.2)).mono ?_; rintro e w' ⟨rfl, n, rfl⟩; rw [uh HX]) | (go_at_call 192; refine (rdigit_any _ _).mono ?_; rintro e w2' ⟨rfl, hw2⟩; rw [uh HD]; subst hw2))
     go_roundg (s.size - (m + 1))
     case measure => obtain ⟨hg, _⟩ := A.out; omega
     case rel =>
      obtain ⟨hg, hn, hd, hmv, hrd⟩ := A.out
      have h9 := uh H8
      refine ⟨m + 1, by omega, by omega, by omega, rfl, by rw [← hn]; exact (skipTo_step hlt (uh HB)).symm, ?_, ?_, ?_, ?_, ?_⟩
      ·intro j hj
       by_cases hj2 : j < m - p
       ·exact hd j hj2
       ·rw [show p + j = m by omega]; exact uh HB
      ·rw [digV_lt hpm hlt]
      ·rw [show ((m - p : Nat) : Int) + 1 = ((m + 1 - p : Nat) : Int) by omega]
      ·exact (hmv.drewN _).set _ _
      ·rw [show ((m : Int) + 1) = ((m + 1 : Nat) : Int) from by omega]
       exact (hrd.drewN _).setAt (m + 1)
   | false =>
    have HD : Hid (isDig (hv s m false) = false) := hide (by rw [hv_dig]; exact hdig)
    have he : digEnd s p = m := by rw [← A.out.2.1]; exact skipTo_stop hdig
    have HE := hide he
    clear he hdig
    generalize hx : hv s m false = x at *
    have HX := hide hx
    clear hx
    by_cases h8 : m = p
    ·have h8b : (((m - p : Nat) : Int) == 0) = true := by rw [beq_iff_eq]; omega
     have H8 := hide h8
     clear h8
     go_wp2_with (first | (go_at_call 137; refine (rhere_any _ _ m false _ _ (by exact A.out.2.2.2.2)).mono ?_; rintro e w' ⟨rfl, n, rfl⟩; rw [uh HX]) | (go_at_call 192; refine (rdigit_any _ _).mono ?_; rintro e w2' ⟨rfl, hw2⟩; rw [uh HD]; subst hw2))
     go_ret
     obtain ⟨hg, hn, hd, hmv, hrd⟩ := A.out
     have h9 := uh H8
     have h10 := uh HE
     have e1 : digitsR s p = .inl p := by unfold digitsR; rw [if_neg (by omega), if_pos (by omega)]
     refine Or.inl ⟨p, uh HN _ e1, rfl, (hmv.drewN _).set _ _, ?_⟩
     have := (hrd.drewN n).setBad true
     rw [h9] at this
     exact this
    ·have h8b : (((m - p : Nat) : Int) == 0) = false := by rw [beq_eq_false_iff_ne]; omega
     have H8 := hide h8
     clear h8
     cases far with
     | true =>
      go_wp2_with (first | (go_at_call 137; refine (rhere_any _ _ m false _ _ (by exact A.out.2.2.2.2)).mono ?_; rintro e w' ⟨rfl, n, rfl⟩; rw [uh HX]) | (go_at_call 192; refine (rdigit_any _ _).mono ?_; rintro e w2' ⟨rfl, hw2⟩; rw [uh HD]; subst hw2))
      refine (rblanks_ok b s m true _ ((A.out.2.2.2.2.drewN _).setFar true) hs hm).mono ?_
      rintro e w3 ⟨rfl, hm3, hr3⟩
      have HM := hide (((A.out.2.2.2.1.drewN n).set 3 (.bool true)).trans hm3)
      have HR := hide hr3
      clear hm3 hr3
      go_wp2
      go_ret
      have h10 := uh HE
      have h11 := uh H8
      have e1 : digitsR s p = .inr (digV s p (m - p), m) := by unfold digitsR; rw [if_neg (by omega), if_neg (by omega), h10]
      refine Or.inr ⟨neg true (digV s p (m - p)), m, uh HN _ e1, rfl, uh HM, ?_⟩
      rw [show (true || farV (neg true (digV s p (m - p)))) = true from by first | rfl | (unfold farV neg; simp; omega)]
      exact uh HR
     | false =>
      by_cases h9 : (1000000 : Int) < digV s p (m - p)
      ·have h9b : decide ((1000000 : Int) < digV s p (m - p)) = true := by simpa using h9
       go_wp2_with (first | (go_at_call 137; refine (rhere_any _ _ m false _ _ (by exact A.out.2.2.2.2)).mono ?_; rintro e w' ⟨rfl, n, rfl⟩; rw [uh HX]) | (go_at_call 192; refine (rdigit_any _ _).mono ?_; rintro e w2' ⟨rfl, hw2⟩; rw [uh HD]; subst hw2))
       refine (rblanks_ok b s m true _ ((A.out.2.2.2.2.drewN _).setFar true) hs hm).mono ?_
       rintro e w3 ⟨rfl, hm3, hr3⟩
       have HM := hide (((A.out.2.2.2.1.drewN n).set 3 (.bool true)).trans hm3)
       have HR := hide hr3
       clear hm3 hr3
       go_wp2
       go_ret
       have h10 := uh HE
       have h11 := uh H8
       have e1 : digitsR s p = .inr (digV s p (m - p), m) := by unfold digitsR; rw [if_neg (by omega), if_neg (by omega), h10]
       refine Or.inr ⟨neg true (digV s p (m - p)), m, uh HN _ e1, rfl, uh HM, ?_⟩
       rw [show (false || farV (neg true (digV s p (m - p)))) = true from by first | rfl | (unfold farV neg; simp; omega)]
       exact uh HR
      ·have h9b : decide ((1000000 : Int) < digV s p (m - p)) = false := by simpa using h9
       go_wp2_with (first | (go_at_call 137; refine (rhere_any _ _ m false _ _ (by exact A.out.2.2.2.2)).mono ?_; rintro e w' ⟨rfl, n, rfl⟩; rw [uh HX]) | (go_at_call 192; refine (rdigit_any _ _).mono ?_; rintro e w2' ⟨rfl, hw2⟩; rw [uh HD]; subst hw2))
       refine (rblanks_ok b s m false _ ((A.out.2.2.2.2.drewN _).setFar false) hs hm).mono ?_
       rintro e w3 ⟨rfl, hm3, hr3⟩
       have HM := hide (((A.out.2.2.2.1.drewN n).set 3 (.bool false)).trans hm3)
       have HR := hide hr3
       clear hm3 hr3
       go_wp2
       go_ret
       have h10 := uh HE
       have h11 := uh H8
       have e1 : digitsR s p = .inr (digV s p (m - p), m) := by unfold digitsR; rw [if_neg (by omega), if_neg (by omega), h10]
       refine Or.inr ⟨neg true (digV s p (m - p)), m, uh HN _ e1, rfl, uh HM, ?_⟩
       rw [show (false || farV (neg true (digV s p (m - p)))) = false from by first | rfl | (unfold farV neg; simp; omega)]
       exact uh HR
 | false =>
  rw [hneg] at hpe HN
  have hx0 : (hv s k false == 45) = false := hv_ne (by omega) hneg
  generalize hx : hv s k false = x at *
  have HX := hide hx
  clear hneg hx
  go_enter Tryz.func169, Tryz.ntmps169
  go_wp2_with (go_at_call 137; refine (rhere_any _ _ k false far _ (by exact uh H)).mono ?_; rintro e w' ⟨rfl, n, rfl⟩; rw [uh HX])
  have HR : Hid (Mv b w (w.drewN n) ∧ RR b s p false far (w.drewN n)) := hide ⟨(Mv.refl b w).drewN n, by
   have : p = k := hpe
   subst this
   exact (uh H).drewN n⟩
  clear HX hx0
  clear H h1 hf1 hpe
  go_loopg [4, 5] (s.size - p) (fun g nv kv wr => ∃ m, p ≤ m ∧ m ≤ s.size ∧ m - p ≤ 7 ∧ g = s.size - m ∧ digEnd s m = digEnd s p ∧ (∀ j, j < m - p → isDig (byteAt s (p + j)) = true) ∧ nv = .int .i64 (digV s p (m - p)) ∧ kv = .int .i64 ((m - p : Nat) : Int) ∧ Mv b w wr ∧ RR b s m false far wr)
  case atStart => exact ⟨p, Nat.le_refl _, hple, by omega, rfl, rfl, by omega, by rw [Nat.sub_self]; rfl, by rw [Nat.sub_self]; rfl, (uh HR).1, (uh HR).2⟩
  case round =>
   obtain ⟨m, hpm, hm, h7, hg, hn, hd, rfl, rfl, hmv, hrd⟩ := hrel
   clear HR
   have h0 := hrd.text
   have h1 := hrd.at
   have h2 := hrd.badC
   have h3 := hrd.farC
   have hf1 := hrd.free 1
   have hf2 := hrd.free 2
   have hf3 := hrd.free 3
   have hv7 := digV_seven h7 hd
   obtain ⟨hv0, hv9⟩ := hv7
   have A : Aside (gk = s.size - m ∧ digEnd s m = digEnd s p ∧ (∀ j, j < m - p → isDig (byteAt s (p + j)) = true) ∧ Mv b w wr ∧ RR b s m false far wr) := ⟨hg, hn, hd, hmv, hrd⟩
   clear hg hn hmv hrd hd
   cases hdig : isDig (byteAt s m) with
   | true =>
    have hlt : m < s.size := by
     rcases Nat.lt_or_ge m s.size with h | h
     ·exact h
     ·rw [byteAt_out h] at hdig; cases hdig
    have hbd := isDig_bd hdig
    rw [byteAt_in hlt] at hbd
    obtain ⟨hb1, hb2⟩ := hbd
    have HB := hide hdig
    have HX := hide (hv_in hlt)
    have HD : Hid (isDig (s[m].toNat : Int) = true) := hide (by rw [← byteAt_in hlt]; exact hdig)
    clear hdig
    by_cases h8 : m - p = 7
    ·have h8b : (((m - p : Nat) : Int) == 7) = true := by rw [beq_iff_eq]; omega
     have H8 := hide h8
     clear h8
     go_wp2_with (first | (go_at_call 137; refine (rhere_any _ _ m false _ _ (by exact A.out.2.2.2.2)).mono ?_; rintro e w' ⟨rfl, n, rfl⟩; rw [uh HX]) | (go_at_call 192; refine (rdigit_any _ _).mono ?_; rintro e w2' ⟨rfl, hw2⟩; rw [uh HD]; subst hw2))
     go_ret
     obtain ⟨hg, hn, hd, hmv, hrd⟩ := A.out
     have h9 := uh H8
     have : digEnd s (m + 1) = digEnd s p := by rw [← hn]; exact (skipTo_step hlt (uh HB)).symm
     have h10 := digEnd_ge s (m + 1)
     have e1 : digitsR s p = .inl m := by unfold digitsR; rw [if_pos (by omega), show p + 7 = m by omega]
     refine Or.inl ⟨m, uh HN _ e1, rfl, ?_, ?_⟩
     ·exact (hmv.drewN _).set _ _
     ·exact (hrd.drewN _).setBad true
    ·have h8b : (((m - p : Nat) : Int) == 7) = false := by rw [beq_eq_false_iff_ne]; omega
     have H8 := hide h8
     clear h8
     go_wp2_with (first | (go_at_call 137; refine (rhere_any _ _ m false _ _ (by exact A.out.2.2.2.2)).mono ?_; rintro e w' ⟨rfl, n, rfl⟩; rw [uh HX]) | (go_at_call 192; refine (rdigit_any _ _).mono ?_; rintro e w2' ⟨rfl, hw2⟩; rw [uh HD]; subst hw2))
     go_roundg (s.size - (m + 1))
     case measure => obtain ⟨hg, _⟩ := A.out; omega
     case rel =>
      obtain ⟨hg, hn, hd, hmv, hrd⟩ := A.out
      have h9 := uh H8
      refine ⟨m + 1, by omega, by omega, by omega, rfl, by rw [← hn]; exact (skipTo_step hlt (uh HB)).symm, ?_, ?_, ?_, ?_, ?_⟩
      ·intro j hj
       by_cases hj2 : j < m - p
       ·exact hd j hj2
       ·rw [show p + j = m by omega]; exact uh HB
      ·rw [digV_lt hpm hlt]
      ·rw [show ((m - p : Nat) : Int) + 1 = ((m + 1 - p : Nat) : Int) by omega]
      ·exact (hmv.drewN _).set _ _
      ·rw [show ((m : Int) + 1) = ((m + 1 : Nat) : Int) from by omega]
       exact (hrd.drewN _).setAt (m + 1)
   | false =>
    have HD : Hid (isDig (hv s m false) = false) := hide (by rw [hv_dig]; exact hdig)
    have he : digEnd s p = m := by rw [← A.out.2.1]; exact skipTo_stop hdig
    have HE := hide he
    clear he hdig
    generalize hx : hv s m false = x at *
    have HX := hide hx
    clear hx
    by_cases h8 : m = p
    ·have h8b : (((m - p : Nat) : Int) == 0) = true := by rw [beq_iff_eq]; omega
     have H8 := hide h8
     clear h8
     go_wp2_with (first | (go_at_call 137; refine (rhere_any _ _ m false _ _ (by exact A.out.2.2.2.2)).mono ?_; rintro e w' ⟨rfl, n, rfl⟩; rw [uh HX]) | (go_at_call 192; refine (rdigit_any _ _).mono ?_; rintro e w2' ⟨rfl, hw2⟩; rw [uh HD]; subst hw2))
     go_ret
     obtain ⟨hg, hn, hd, hmv, hrd⟩ := A.out
     have h9 := uh H8
     have h10 := uh HE
     have e1 : digitsR s p = .inl p := by unfold digitsR; rw [if_neg (by omega), if_pos (by omega)]
     refine Or.inl ⟨p, uh HN _ e1, rfl, (hmv.drewN _).set _ _, ?_⟩
     have := (hrd.drewN n).setBad true
     rw [h9] at this
     exact this
    ·have h8b : (((m - p : Nat) : Int) == 0) = false := by rw [beq_eq_false_iff_ne]; omega
     have H8 := hide h8
     clear h8
     cases far with
     | true =>
      go_wp2_with (first | (go_at_call 137; refine (rhere_any _ _ m false _ _ (by exact A.out.2.2.2.2)).mono ?_; rintro e w' ⟨rfl, n, rfl⟩; rw [uh HX]) | (go_at_call 192; refine (rdigit_any _ _).mono ?_; rintro e w2' ⟨rfl, hw2⟩; rw [uh HD]; subst hw2))
      refine (rblanks_ok b s m true _ ((A.out.2.2.2.2.drewN _).setFar true) hs hm).mono ?_
      rintro e w3 ⟨rfl, hm3, hr3⟩
      have HM := hide (((A.out.2.2.2.1.drewN n).set 3 (.bool true)).trans hm3)
      have HR := hide hr3
      clear hm3 hr3
      go_wp2
      go_ret
      have h10 := uh HE
      have h11 := uh H8
      have e1 : digitsR s p = .inr (digV s p (m - p), m) := by unfold digitsR; rw [if_neg (by omega), if_neg (by omega), h10]
      refine Or.inr ⟨neg false (digV s p (m - p)), m, uh HN _ e1, rfl, uh HM, ?_⟩
      rw [show (true || farV (neg false (digV s p (m - p)))) = true from by first | rfl | (unfold farV neg; simp; omega)]
      exact uh HR
     | false =>
      by_cases h9 : (1000000 : Int) < digV s p (m - p)
      ·have h9b : decide ((1000000 : Int) < digV s p (m - p)) = true := by simpa using h9
       go_wp2_with (first | (go_at_call 137; refine (rhere_any _ _ m false _ _ (by exact A.out.2.2.2.2)).mono ?_; rintro e w' ⟨rfl, n, rfl⟩; rw [uh HX]) | (go_at_call 192; refine (rdigit_any _ _).mono ?_; rintro e w2' ⟨rfl, hw2⟩; rw [uh HD]; subst hw2))
       refine (rblanks_ok b s m true _ ((A.out.2.2.2.2.drewN _).setFar true) hs hm).mono ?_
       rintro e w3 ⟨rfl, hm3, hr3⟩
       have HM := hide (((A.out.2.2.2.1.drewN n).set 3 (.bool true)).trans hm3)
       have HR := hide hr3
       clear hm3 hr3
       go_wp2
       go_ret
       have h10 := uh HE
       have h11 := uh H8
       have e1 : digitsR s p = .inr (digV s p (m - p), m) := by unfold digitsR; rw [if_neg (by omega), if_neg (by omega), h10]
       refine Or.inr ⟨neg false (digV s p (m - p)), m, uh HN _ e1, rfl, uh HM, ?_⟩
       rw [show (false || farV (neg false (digV s p (m - p)))) = true from by first | rfl | (unfold farV neg; simp; omega)]
       exact uh HR
      ·have h9b : decide ((1000000 : Int) < digV s p (m - p)) = false := by simpa using h9
       go_wp2_with (first | (go_at_call 137; refine (rhere_any _ _ m false _ _ (by exact A.out.2.2.2.2)).mono ?_; rintro e w' ⟨rfl, n, rfl⟩; rw [uh HX]) | (go_at_call 192; refine (rdigit_any _ _).mono ?_; rintro e w2' ⟨rfl, hw2⟩; rw [uh HD]; subst hw2))
       refine (rblanks_ok b s m false _ ((A.out.2.2.2.2.drewN _).setFar false) hs hm).mono ?_
       rintro e w3 ⟨rfl, hm3, hr3⟩
       have HM := hide (((A.out.2.2.2.1.drewN n).set 3 (.bool false)).trans hm3)
       have HR := hide hr3
       clear hm3 hr3
       go_wp2
       go_ret
       have h10 := uh HE
       have h11 := uh H8
       have e1 : digitsR s p = .inr (digV s p (m - p), m) := by unfold digitsR; rw [if_neg (by omega), if_neg (by omega), h10]
       refine Or.inr ⟨neg false (digV s p (m - p)), m, uh HN _ e1, rfl, uh HM, ?_⟩
       rw [show (false || farV (neg false (digV s p (m - p)))) = false from by first | rfl | (unfold farV neg; simp; omega)]
       exact uh HR
end Go.Proofs.YthnggjaecngbiaaGreatDoor
namespace Go.Proofs.YthnggjaecngbiaaGreatDoor
open Go.RowKit
theorem rnumber_yes (b : Nat) (s : ByteArray) (k : Nat) (far : Bool) (w : World) (hr : RR b s k false far w) (hs : s.size ≤ 1000) (hk : k ≤ s.size) (hb : nextP s k = k) {v : Int} {q : Nat} (h : numberR s k = .inr (v, q)) :
  Calls Tryz.prog 169 #[.pointer (some ⟨b, 0, none⟩)] w fun e w' => e = .returned (.int .i64 v) ∧ Mv b w w' ∧ RR b s (nextP s q) false (far || farV v) w' := by
 refine (rnumber_any b s k far w hr hs hk hb).mono ?_
 rintro e w' (⟨p, h1, _⟩ | ⟨v', q', h1, h2⟩)
 ·rw [h] at h1; cases h1
 ·rw [h] at h1; cases h1; exact h2
theorem rnumber_no (b : Nat) (s : ByteArray) (k : Nat) (far : Bool) (w : World) (hr : RR b s k false far w) (hs : s.size ≤ 1000) (hk : k ≤ s.size) (hb : nextP s k = k) {p : Nat} (h : numberR s k = .inl p) :
  Calls Tryz.prog 169 #[.pointer (some ⟨b, 0, none⟩)] w fun e w' => e = .returned (.int .i64 0) ∧ Mv b w w' ∧ RR b s p true far w' := by
 refine (rnumber_any b s k far w hr hs hk hb).mono ?_
 rintro e w' (⟨p, h1, h2⟩ | ⟨v', q', h1, h2⟩)
 ·rw [h] at h1; cases h1; exact h2
 ·rw [h] at h1; cases h1
set_option maxHeartbeats 800000 in
theorem rnumber_bad (b : Nat) (s : ByteArray) (k : Nat) (far : Bool) (w : World) (hr : RR b s k true far w) :
  Calls Tryz.prog 169 #[.pointer (some ⟨b, 0, none⟩)] w fun e w' => e = .returned (.int .i64 0) ∧ Mv b w w' ∧ RR b s k true far w' := by
 have h2 := hr.badC
 have hf2 := hr.free 2
 have H := hide hr
 clear hr
 go_enter Tryz.func169, Tryz.ntmps169
 go_wp2_with (go_at_call 137; refine (rhere_any _ _ k true far _ (by exact uh H)).mono ?_; rintro e w' ⟨rfl, n, rfl⟩; rw [hv_bad])
 go_loopg [4, 5] 0 (fun _ nv kv wr => nv = .int .i64 0 ∧ kv = .int .i64 0 ∧ ∃ n, wr = w.drewN n)
 case atStart => exact ⟨rfl, rfl, _, rfl⟩
 case round =>
  obtain ⟨rfl, rfl, n, rfl⟩ := hrel
  go_wp2_with (first | (go_at_call 137; refine (rhere_any _ _ k true far _ (by exact (uh H).drewN _)).mono ?_; rintro e w' ⟨rfl, n, rfl⟩; rw [hv_bad]) | (go_at_call 192; refine (rdigit_any _ _).mono ?_; rintro e w2' ⟨rfl, hw2⟩; rw [show isDig 0 = false from rfl]; subst hw2))
  go_ret
  exact ⟨rfl, ((Mv.refl b w).drewN _).set _ _, ((uh H).drewN _).setBad true⟩
def mk99 (s : ByteArray) (m : Nat) (n : Int) : Int × Nat := if inR s m 99 99 then (n + 4, m + 1) else (n, m)
def mk98 (s : ByteArray) (m : Nat) (n : Int) : Int × Nat := if inR s m 98 98 then mk99 s (m + 1) (n + 2) else if inR s m 99 99 then (n + 4, m + 1) else (n, m)
def mk97 (s : ByteArray) (m : Nat) (n : Int) : Int × Nat := if inR s m 97 97 then mk98 s (m + 1) (n + 1) else if inR s m 98 98 then mk99 s (m + 1) (n + 2) else if inR s m 99 99 then (n + 4, m + 1) else (n, m)
def mkF (s : ByteArray) (l : Int) (m : Nat) (n : Int) : Int × Nat := if l = 97 then mk97 s m n else if l = 98 then mk98 s m n else if l = 99 then mk99 s m n else (n, m)
theorem mk98_eq (s : ByteArray) (m : Nat) (n : Int) : mk98 s m n = mk99 s (adv (inR s m 98 98) m) (n + (bit (inR s m 98 98) 2 : Nat)) := by
 unfold mk98
 cases h : inR s m 98 98
 ·simp [adv, bit, mk99]
 ·simp [adv, bit]
theorem mk97_eq (s : ByteArray) (m : Nat) (n : Int) : mk97 s m n = mk98 s (adv (inR s m 97 97) m) (n + (bit (inR s m 97 97) 1 : Nat)) := by
 unfold mk97
 cases h : inR s m 97 97
 ·simp [adv, bit, mk98]
 ·simp [adv, bit]
theorem mk99_eq (s : ByteArray) (m : Nat) (n : Int) : mk99 s m n = (n + (bit (inR s m 99 99) 4 : Nat), adv (inR s m 99 99) m) := by
 unfold mk99
 cases h : inR s m 99 99 <;> simp [adv, bit]
theorem mkF_first (s : ByteArray) (k : Nat) : mkF s 97 k 0 = ((mkSet s k : Int), mk3 s k) := by
 simp only [mkF, if_true]
 rw [mk97_eq, mk98_eq, mk99_eq]
 simp only [mkSet, mk3, mk2, mk1]
 congr 1
 omega
theorem inR_hv {s : ByteArray} {m : Nat} {c : Int} (hc : 0 < c) : inR s m c c = decide (hv s m false = c) := by
 rw [← hv_eq hc, Bool.eq_iff_iff]; simp
theorem mkF_step {s : ByteArray} {l c : Int} {m : Nat} {n : Int} (hl : 97 ≤ l) (hlc : l ≤ c) (hc : c ≤ 99) (h : hv s m false = c) (d : Int) (hd : c = 97 ∧ d = 1 ∨ c = 98 ∧ d = 2 ∨ c = 99 ∧ d = 4) : mkF s l m n = mkF s (c + 1) (m + 1) (n + d) := by
 unfold mkF mk97 mk98 mk99
 simp only [inR_hv (s := s) (m := m) (c := 97) (by omega), inR_hv (s := s) (m := m) (c := 98) (by omega), inR_hv (s := s) (m := m) (c := 99) (by omega), h]
 rcases hd with ⟨rfl, rfl⟩ | ⟨rfl, rfl⟩ | ⟨rfl, rfl⟩
 ·obtain rfl : l = 97 := by omega
  simp
 ·rcases (by omega : l = 97 ∨ l = 98) with rfl | rfl <;> simp
 ·rcases (by omega : l = 97 ∨ l = 98 ∨ l = 99) with rfl | rfl | rfl <;> simp
theorem mkF_stop {s : ByteArray} {l : Int} {m : Nat} {n : Int} (_hl : 97 ≤ l) (h : ¬ (l ≤ hv s m false ∧ hv s m false ≤ 99)) : mkF s l m n = (n, m) := by
 unfold mkF mk97 mk98 mk99
 simp only [inR_hv (s := s) (m := m) (c := 97) (by omega), inR_hv (s := s) (m := m) (c := 98) (by omega), inR_hv (s := s) (m := m) (c := 99) (by omega)]
 split
 ·rw [if_neg (by simp; omega), if_neg (by simp; omega), if_neg (by simp; omega)]
 ·split
  ·rw [if_neg (by simp; omega), if_neg (by simp; omega)]
  ·split
   ·rw [if_neg (by simp; omega)]
   ·rfl
set_option maxHeartbeats 1600000 in
theorem rmarks_any (b : Nat) (s : ByteArray) (k : Nat) (far : Bool) (w : World) (hr : RR b s k false far w) (hs : s.size ≤ 1000) (hk : k ≤ s.size) :
  Calls Tryz.prog 140 #[.pointer (some ⟨b, 0, none⟩)] w fun e w' => (∃ p, marksR s k = .inl p ∧ e = .returned (.int .i64 0) ∧ Mv b w w' ∧ RR b s p true far w') ∨ (∃ v q, marksR s k = .inr (v, q) ∧ e = .returned (.int .i64 (v : Int)) ∧ Mv b w w' ∧ RR b s (nextP s q) false far w') := by
 have H := hide hr
 clear hr
 go_enter Tryz.func140, Tryz.ntmps140
 go_wp2_with fail
 go_loopg [3, 4] 3 (fun g nv lv wr => ∃ (l n : Int) (m : Nat), 97 ≤ l ∧ l ≤ 100 ∧ (g : Int) = 100 - l ∧ m ≤ s.size ∧ 0 ≤ n ∧ n ≤ 100 * (l - 97) ∧ nv = .int .i64 n ∧ lv = .int .u8 l ∧ mkF s l m n = ((mkSet s k : Int), mk3 s k) ∧ Mv b w wr ∧ RR b s m false far wr)
 case atStart => exact ⟨97, 0, k, by omega, by omega, by omega, hk, by omega, by omega, rfl, rfl, mkF_first s k, Mv.refl _ _, uh H⟩
 case round =>
  obtain ⟨l, nn, m, hl, hl1, hg, hm, hn0, hn1, rfl, rfl, hF, hmv, hrd⟩ := hrel
  clear H
  have h1 := hrd.at
  have h2 := hrd.badC
  have hf1 := hrd.free 1
  have hf2 := hrd.free 2
  have A : Aside ((gk : Int) = 100 - l ∧ mkF s l m nn = ((mkSet s k : Int), mk3 s k) ∧ Mv b w wr ∧ RR b s m false far wr) := ⟨hg, hF, hmv, hrd⟩
  clear hg hF hmv hrd
  by_cases hin : l ≤ hv s m false ∧ hv s m false ≤ 99
  ·have hlt : m < s.size := by
    rcases Nat.lt_or_ge m s.size with h | h
    ·exact h
    ·rw [hv_out h] at hin; omega
   obtain ⟨hin1, hin2⟩ := hin
   rcases (by omega : hv s m false = 97 ∨ hv s m false = 98 ∨ hv s m false = 99) with hc | hc | hc
   ·rw [hc] at hin1
    have hd1 : decide (l ≤ 97) = true := by simpa using hin1
    have HX := hide hc
    clear hc hin2
    go_wp2_with (go_at_call 137; refine (rhere_any _ _ m false far _ (by exact A.out.2.2.2)).mono ?_; rintro e w' ⟨rfl, n, rfl⟩; rw [uh HX])
    go_roundg 2
    case measure => have := A.out.1; omega
    case rel =>
     obtain ⟨hg, hF, hmv, hrd⟩ := A.out
     refine ⟨98, nn + 1, m + 1, by omega, by omega, by omega, by omega, by omega, by omega, rfl, rfl, ?_, (hmv.drewN _).set _ _, ?_⟩
     ·rw [← hF]; exact (mkF_step hl hin1 (by omega) (uh HX) 1 (.inl ⟨rfl, rfl⟩)).symm
     ·rw [show ((m : Int) + 1) = ((m + 1 : Nat) : Int) from by omega]
      exact (hrd.drewN _).setAt (m + 1)
   ·rw [hc] at hin1
    have hd1 : decide (l ≤ 98) = true := by simpa using hin1
    have HX := hide hc
    clear hc hin2
    go_wp2_with (go_at_call 137; refine (rhere_any _ _ m false far _ (by exact A.out.2.2.2)).mono ?_; rintro e w' ⟨rfl, n, rfl⟩; rw [uh HX])
    go_roundg 1
    case measure => have := A.out.1; omega
    case rel =>
     obtain ⟨hg, hF, hmv, hrd⟩ := A.out
     refine ⟨99, nn + 2, m + 1, by omega, by omega, by omega, by omega, by omega, by omega, rfl, rfl, ?_, (hmv.drewN _).set _ _, ?_⟩
     ·rw [← hF]; exact (mkF_step hl hin1 (by omega) (uh HX) 2 (.inr (.inl ⟨rfl, rfl⟩))).symm
     ·rw [show ((m : Int) + 1) = ((m + 1 : Nat) : Int) from by omega]
      exact (hrd.drewN _).setAt (m + 1)
   ·rw [hc] at hin1
    have hd1 : decide (l ≤ 99) = true := by simpa using hin1
    have HX := hide hc
    clear hc hin2
    go_wp2_with (go_at_call 137; refine (rhere_any _ _ m false far _ (by exact A.out.2.2.2)).mono ?_; rintro e w' ⟨rfl, n, rfl⟩; rw [uh HX])
    go_roundg 0
    case measure => have := A.out.1; omega
    case rel =>
     obtain ⟨hg, hF, hmv, hrd⟩ := A.out
     refine ⟨100, nn + 4, m + 1, by omega, by omega, by omega, by omega, by omega, by omega, rfl, rfl, ?_, (hmv.drewN _).set _ _, ?_⟩
     ·rw [← hF]; exact (mkF_step hl hin1 (by omega) (uh HX) 4 (.inr (.inr ⟨rfl, rfl⟩))).symm
     ·rw [show ((m : Int) + 1) = ((m + 1 : Nat) : Int) from by omega]
      exact (hrd.drewN _).setAt (m + 1)
  ·have HF : Hid (nn = (mkSet s k : Int) ∧ m = mk3 s k) := hide (by
    have h := A.out.2.1
    rw [mkF_stop hl hin] at h
    simpa using h)
   generalize hx : hv s m false = c at *
   have HX := hide hx
   clear hx
   by_cases h0 : nn = 0
   ·have h0b : (nn == 0) = true := by simpa using h0
    have fin : ∀ w3, Mv b wr w3 → RR b s m true far w3 → ∃ p, marksR s k = .inl p ∧ Mv b w w3 ∧ RR b s p true far w3 := fun w3 a1 a2 => by
     obtain ⟨e1, e2⟩ := uh HF
     refine ⟨mk3 s k, ?_, A.out.2.2.1.trans a1, by rw [← e2]; exact a2⟩
     unfold marksR
     rw [if_pos (by omega)]
    have FIN := hide fin
    clear fin
    subst h0
    by_cases hin1 : l ≤ c
    ·have hd1 : decide (l ≤ c) = true := by simpa using hin1
     have hd2 : decide (c ≤ 99) = false := by simp; omega
     go_wp2_with (go_at_call 137; refine (rhere_any _ _ m false far _ (by exact A.out.2.2.2)).mono ?_; rintro e w' ⟨rfl, n, rfl⟩; rw [uh HX])
     refine (rblanks_bad b s m far _ ((A.out.2.2.2.drewN _).setBad true)).mono ?_
     rintro e w3 ⟨rfl, hm3, hr3⟩
     have HG := hide (uh FIN _ ((((Mv.refl b wr).drewN _).set _ _).trans hm3) hr3)
     clear hm3 hr3
     go_wp2
     go_ret
     obtain ⟨p, e1, e2, e3⟩ := uh HG
     exact Or.inl ⟨p, e1, rfl, e2, e3⟩
    ·have hd1 : decide (l ≤ c) = false := by simpa using hin1
     go_wp2_with (go_at_call 137; refine (rhere_any _ _ m false far _ (by exact A.out.2.2.2)).mono ?_; rintro e w' ⟨rfl, n, rfl⟩; rw [uh HX])
     refine (rblanks_bad b s m far _ ((A.out.2.2.2.drewN _).setBad true)).mono ?_
     rintro e w3 ⟨rfl, hm3, hr3⟩
     have HG := hide (uh FIN _ ((((Mv.refl b wr).drewN _).set _ _).trans hm3) hr3)
     clear hm3 hr3
     go_wp2
     go_ret
     obtain ⟨p, e1, e2, e3⟩ := uh HG
     exact Or.inl ⟨p, e1, rfl, e2, e3⟩
   ·have h0b : (nn == 0) = false := by simpa using h0
    have fin : ∀ w3, Mv b wr w3 → RR b s (nextP s m) false far w3 → ∃ v q, marksR s k = .inr (v, q) ∧ (v : Int) = nn ∧ Mv b w w3 ∧ RR b s (nextP s q) false far w3 := fun w3 a1 a2 => by
     obtain ⟨e1, e2⟩ := uh HF
     refine ⟨mkSet s k, mk3 s k, ?_, e1.symm, A.out.2.2.1.trans a1, by rw [← e2]; exact a2⟩
     unfold marksR
     rw [if_neg (by omega)]
    have FIN := hide fin
    clear fin
    by_cases hin1 : l ≤ c
    ·have hd1 : decide (l ≤ c) = true := by simpa using hin1
     have hd2 : decide (c ≤ 99) = false := by simp; omega
     go_wp2_with (go_at_call 137; refine (rhere_any _ _ m false far _ (by exact A.out.2.2.2)).mono ?_; rintro e w' ⟨rfl, n, rfl⟩; rw [uh HX])
     refine (rblanks_ok b s m far _ (A.out.2.2.2.drewN _) hs hm).mono ?_
     rintro e w3 ⟨rfl, hm3, hr3⟩
     have HG := hide (uh FIN _ (((Mv.refl b wr).drewN _).trans hm3) hr3)
     clear hm3 hr3
     go_wp2
     go_ret
     obtain ⟨v, q, e1, e2, e3, e4⟩ := uh HG
     exact Or.inr ⟨v, q, e1, by rw [e2]; rfl, e3, e4⟩
    ·have hd1 : decide (l ≤ c) = false := by simpa using hin1
     go_wp2_with (go_at_call 137; refine (rhere_any _ _ m false far _ (by exact A.out.2.2.2)).mono ?_; rintro e w' ⟨rfl, n, rfl⟩; rw [uh HX])
     refine (rblanks_ok b s m far _ (A.out.2.2.2.drewN _) hs hm).mono ?_
     rintro e w3 ⟨rfl, hm3, hr3⟩
     have HG := hide (uh FIN _ (((Mv.refl b wr).drewN _).trans hm3) hr3)
     clear hm3 hr3
     go_wp2
     go_ret
     obtain ⟨v, q, e1, e2, e3, e4⟩ := uh HG
     exact Or.inr ⟨v, q, e1, by rw [e2]; rfl, e3, e4⟩
theorem rmarks_yes (b : Nat) (s : ByteArray) (k : Nat) (far : Bool) (w : World) (hr : RR b s k false far w) (hs : s.size ≤ 1000) (hk : k ≤ s.size) {v q : Nat} (h : marksR s k = .inr (v, q)) :
  Calls Tryz.prog 140 #[.pointer (some ⟨b, 0, none⟩)] w fun e w' => e = .returned (.int .i64 (v : Int)) ∧ Mv b w w' ∧ RR b s (nextP s q) false far w' := by
 refine (rmarks_any b s k far w hr hs hk).mono ?_
 rintro e w' (⟨p, h1, _⟩ | ⟨v', q', h1, h2⟩)
 ·rw [h] at h1; cases h1
 ·rw [h] at h1; cases h1; exact h2
theorem rmarks_no (b : Nat) (s : ByteArray) (k : Nat) (far : Bool) (w : World) (hr : RR b s k false far w) (hs : s.size ≤ 1000) (hk : k ≤ s.size) {p : Nat} (h : marksR s k = .inl p) :
  Calls Tryz.prog 140 #[.pointer (some ⟨b, 0, none⟩)] w fun e w' => e = .returned (.int .i64 0) ∧ Mv b w w' ∧ RR b s p true far w' := by
 refine (rmarks_any b s k far w hr hs hk).mono ?_
 rintro e w' (⟨p, h1, h2⟩ | ⟨v', q', h1, h2⟩)
 ·rw [h] at h1; cases h1; exact h2
 ·rw [h] at h1; cases h1
end Go.Proofs.YthnggjaecngbiaaGreatDoor
