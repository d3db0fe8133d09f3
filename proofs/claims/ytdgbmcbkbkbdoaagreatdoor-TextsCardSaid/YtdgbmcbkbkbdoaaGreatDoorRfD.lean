import Derived.Test.YtdgbmcbkbkbdoaaGreatDoorRfC
namespace Go.Proofs.YtdgbmcbkbkbdoaaGreatDoor
open Go.RowKit

/-- Is a number too far? -/
def farV (v : Int) : Bool := decide (1000000 < v ∨ v < -1000000)

theorem digV_lt {s : ByteArray} {k m : Nat} (hkm : k ≤ m) (hlt : m < s.size) : digV s k (m + 1 - k) = 10 * digV s k (m - k) + ((s[m].toNat : Int) - 48) := by
  rw [show m + 1 - k = (m - k) + 1 by omega]
  simp only [digV]
  rw [show k + (m - k) = m by omega, byteAt_in hlt]

def negRes (t : Bool) : Res Int → Res Int
  | .inl p => .inl p
  | .inr (v, q) => .inr (neg t v, q)

set_option maxHeartbeats 3200000 in
theorem rnumber_any (b : Nat) (s : ByteArray) (k : Nat) (far : Bool) (w : World) (hr : RR b s k false far w) (hs : s.size ≤ 1000) (hk : k ≤ s.size) (hb : nextP s k = k) :
    Calls Tryz.prog 150 #[.pointer (some ⟨b, 0, none⟩)] w fun e w' => (∃ p, numberR s k = .inl p ∧ e = .returned (.int .i64 0) ∧ Mv b w w' ∧ RR b s p true far w') ∨ (∃ v q, numberR s k = .inr (v, q) ∧ e = .returned (.int .i64 v) ∧ Mv b w w' ∧ RR b s (nextP s q) false (far || farV v) w') := by
  have h1 := hr.at
  have hf1 := hr.free 1
  have H := hide hr
  clear hr
  obtain ⟨p, hp⟩ : ∃ p, p = numAt s k := ⟨_, rfl⟩
  have hpe : p = adv (inR s k 45 45) k := by rw [hp]; unfold numAt; rw [hb]
  have hple : p ≤ s.size := by rw [hpe]; exact adv_le hk (by omega)
  have HN : Hid (∀ d, digitsR s p = d → numberR s k = negRes (inR s k 45 45) d) := hide (fun d hd => by unfold numberR; rw [← hp, hd, hb]; cases d <;> rfl)
  clear hp
  cases hneg : inR s k 45 45 with
  | true =>
    have hlt0 := inR_lt (by omega) hneg
    rw [hneg] at hpe HN
    have HX := hide (hv_yes hneg (by omega))
    clear hneg
    go_enter Tryz.func150, Tryz.ntmps150
    go_wp2_with (go_at_call 121; refine (rhere_any _ _ k false far _ (by exact unhide H)).mono ?_; rintro e w' ⟨rfl, n, rfl⟩; rw [unhide HX])
    have HR : Hid (Mv b w ((w.drewN n).setCell ⟨b, 1, none⟩ (.int .i64 ((k : Int) + 1))) ∧ RR b s p false far ((w.drewN n).setCell ⟨b, 1, none⟩ (.int .i64 ((k : Int) + 1)))) := hide ⟨((Mv.refl b w).drewN n).set _ _, by
      have : p = k + 1 := hpe
      subst this
      rw [show ((k : Int) + 1) = ((k + 1 : Nat) : Int) from by omega]
      exact ((unhide H).drewN n).setAt (k + 1)⟩
    clear HX
    clear H h1 hf1 hpe
    go_loopg [4, 5] (s.size - p) (fun g nv kv wr => ∃ m, p ≤ m ∧ m ≤ s.size ∧ m - p ≤ 7 ∧ g = s.size - m ∧ digEnd s m = digEnd s p ∧ (∀ j, j < m - p → isDig (byteAt s (p + j)) = true) ∧ nv = .int .i64 (digV s p (m - p)) ∧ kv = .int .i64 ((m - p : Nat) : Int) ∧ Mv b w wr ∧ RR b s m false far wr)
    case atStart => exact ⟨p, Nat.le_refl _, hple, by omega, rfl, rfl, by omega, by rw [Nat.sub_self]; rfl, by rw [Nat.sub_self]; rfl, (unhide HR).1, (unhide HR).2⟩
    case round =>
      obtain ⟨m, hpm, hm, h7, hg, hn, hd, rfl, rfl, hmv, hrd⟩ := hrel
      clear HR
      have h0 := hrd.text
      have h1 := hrd.at
      have h2 := hrd.badC
      have h3 := hrd.farC
      have hf1 := hrd.free 1
      have hf2 := hrd.free 2
      have hf3 := hrd.free 3
      have hv7 := digV_seven h7 hd
      obtain ⟨hv0, hv9⟩ := hv7
      have A : Aside (gk = s.size - m ∧ digEnd s m = digEnd s p ∧ (∀ j, j < m - p → isDig (byteAt s (p + j)) = true) ∧ Mv b w wr ∧ RR b s m false far wr) := ⟨hg, hn, hd, hmv, hrd⟩
      clear hg hn hmv hrd hd
      cases hdig : isDig (byteAt s m) with
      | true =>
        have hlt : m < s.size := by
          rcases Nat.lt_or_ge m s.size with h | h
          · exact h
          · rw [byteAt_out h] at hdig; cases hdig
        have hbd := isDig_bd hdig
        rw [byteAt_in hlt] at hbd
        obtain ⟨hb1, hb2⟩ := hbd
        have HB := hide hdig
        have HX := hide (hv_in hlt)
        have HD : Hid (isDig (s[m].toNat : Int) = true) := hide (by rw [← byteAt_in hlt]; exact hdig)
        clear hdig
        by_cases h8 : m - p = 7
        · have h8b : (((m - p : Nat) : Int) == 7) = true := by rw [beq_iff_eq]; omega
          have H8 := hide h8
          clear h8
          go_wp2_with (first | (go_at_call 121; refine (rhere_any _ _ m false _ _ (by exact A.out.2.2.2.2)).mono ?_; rintro e w' ⟨rfl, n, rfl⟩; rw [unhide HX]) | (go_at_call 168; refine (rdigit_any _ _).mono ?_; rintro e w2' ⟨rfl, hw2⟩; rw [unhide HD]; subst hw2))
          go_ret
          obtain ⟨hg, hn, hd, hmv, hrd⟩ := A.out
          have h9 := unhide H8
          have : digEnd s (m + 1) = digEnd s p := by rw [← hn]; exact (skipTo_step hlt (unhide HB)).symm
          have h10 := digEnd_ge s (m + 1)
          have e1 : digitsR s p = .inl m := by unfold digitsR; rw [if_pos (by omega), show p + 7 = m by omega]
          refine Or.inl ⟨m, unhide HN _ e1, rfl, ?_, ?_⟩
          · exact (hmv.drewN _).set _ _
          · exact (hrd.drewN _).setBad true
        · have h8b : (((m - p : Nat) : Int) == 7) = false := by rw [beq_eq_false_iff_ne]; omega
          have H8 := hide h8
          clear h8
          go_wp2_with (first | (go_at_call 121; refine (rhere_any _ _ m false _ _ (by exact A.out.2.2.2.2)).mono ?_; rintro e w' ⟨rfl, n, rfl⟩; rw [unhide HX]) | (go_at_call 168; refine (rdigit_any _ _).mono ?_; rintro e w2' ⟨rfl, hw2⟩; rw [unhide HD]; subst hw2))
          go_roundg (s.size - (m + 1))
          case measure => obtain ⟨hg, _⟩ := A.out; omega
          case rel =>
            obtain ⟨hg, hn, hd, hmv, hrd⟩ := A.out
            have h9 := unhide H8
            refine ⟨m + 1, by omega, by omega, by omega, rfl, by rw [← hn]; exact (skipTo_step hlt (unhide HB)).symm, ?_, ?_, ?_, ?_, ?_⟩
            · intro j hj
              by_cases hj2 : j < m - p
              · exact hd j hj2
              · rw [show p + j = m by omega]; exact unhide HB
            · rw [digV_lt hpm hlt]
            · rw [show ((m - p : Nat) : Int) + 1 = ((m + 1 - p : Nat) : Int) by omega]
            · exact (hmv.drewN _).set _ _
            · rw [show ((m : Int) + 1) = ((m + 1 : Nat) : Int) from by omega]
              exact (hrd.drewN _).setAt (m + 1)
      | false =>
        have HD : Hid (isDig (hv s m false) = false) := hide (by rw [hv_dig]; exact hdig)
        have he : digEnd s p = m := by rw [← A.out.2.1]; exact skipTo_stop hdig
        have HE := hide he
        clear he hdig
        generalize hx : hv s m false = x at *
        have HX := hide hx
        clear hx
        by_cases h8 : m = p
        · have h8b : (((m - p : Nat) : Int) == 0) = true := by rw [beq_iff_eq]; omega
          have H8 := hide h8
          clear h8
          go_wp2_with (first | (go_at_call 121; refine (rhere_any _ _ m false _ _ (by exact A.out.2.2.2.2)).mono ?_; rintro e w' ⟨rfl, n, rfl⟩; rw [unhide HX]) | (go_at_call 168; refine (rdigit_any _ _).mono ?_; rintro e w2' ⟨rfl, hw2⟩; rw [unhide HD]; subst hw2))
          go_ret
          obtain ⟨hg, hn, hd, hmv, hrd⟩ := A.out
          have h9 := unhide H8
          have h10 := unhide HE
          have e1 : digitsR s p = .inl p := by unfold digitsR; rw [if_neg (by omega), if_pos (by omega)]
          refine Or.inl ⟨p, unhide HN _ e1, rfl, (hmv.drewN _).set _ _, ?_⟩
          have := (hrd.drewN n).setBad true
          rw [h9] at this
          exact this
        · have h8b : (((m - p : Nat) : Int) == 0) = false := by rw [beq_eq_false_iff_ne]; omega
          have H8 := hide h8
          clear h8
          cases far with
          | true =>
            go_wp2_with (first | (go_at_call 121; refine (rhere_any _ _ m false _ _ (by exact A.out.2.2.2.2)).mono ?_; rintro e w' ⟨rfl, n, rfl⟩; rw [unhide HX]) | (go_at_call 168; refine (rdigit_any _ _).mono ?_; rintro e w2' ⟨rfl, hw2⟩; rw [unhide HD]; subst hw2))
            refine (rblanks_ok b s m true _ ((A.out.2.2.2.2.drewN _).setFar true) hs hm).mono ?_
            rintro e w3 ⟨rfl, hm3, hr3⟩
            have HM := hide (((A.out.2.2.2.1.drewN n).set 3 (.bool true)).trans hm3)
            have HR := hide hr3
            clear hm3 hr3
            go_wp2
            go_ret
            have h10 := unhide HE
            have h11 := unhide H8
            have e1 : digitsR s p = .inr (digV s p (m - p), m) := by unfold digitsR; rw [if_neg (by omega), if_neg (by omega), h10]
            refine Or.inr ⟨neg true (digV s p (m - p)), m, unhide HN _ e1, rfl, unhide HM, ?_⟩
            rw [show (true || farV (neg true (digV s p (m - p)))) = true from by first | rfl | (unfold farV neg; simp; omega)]
            exact unhide HR
          | false =>
            by_cases h9 : (1000000 : Int) < digV s p (m - p)
            · have h9b : decide ((1000000 : Int) < digV s p (m - p)) = true := by simpa using h9
              go_wp2_with (first | (go_at_call 121; refine (rhere_any _ _ m false _ _ (by exact A.out.2.2.2.2)).mono ?_; rintro e w' ⟨rfl, n, rfl⟩; rw [unhide HX]) | (go_at_call 168; refine (rdigit_any _ _).mono ?_; rintro e w2' ⟨rfl, hw2⟩; rw [unhide HD]; subst hw2))
              refine (rblanks_ok b s m true _ ((A.out.2.2.2.2.drewN _).setFar true) hs hm).mono ?_
              rintro e w3 ⟨rfl, hm3, hr3⟩
              have HM := hide (((A.out.2.2.2.1.drewN n).set 3 (.bool true)).trans hm3)
              have HR := hide hr3
              clear hm3 hr3
              go_wp2
              go_ret
              have h10 := unhide HE
              have h11 := unhide H8
              have e1 : digitsR s p = .inr (digV s p (m - p), m) := by unfold digitsR; rw [if_neg (by omega), if_neg (by omega), h10]
              refine Or.inr ⟨neg true (digV s p (m - p)), m, unhide HN _ e1, rfl, unhide HM, ?_⟩
              rw [show (false || farV (neg true (digV s p (m - p)))) = true from by first | rfl | (unfold farV neg; simp; omega)]
              exact unhide HR
            · have h9b : decide ((1000000 : Int) < digV s p (m - p)) = false := by simpa using h9
              go_wp2_with (first | (go_at_call 121; refine (rhere_any _ _ m false _ _ (by exact A.out.2.2.2.2)).mono ?_; rintro e w' ⟨rfl, n, rfl⟩; rw [unhide HX]) | (go_at_call 168; refine (rdigit_any _ _).mono ?_; rintro e w2' ⟨rfl, hw2⟩; rw [unhide HD]; subst hw2))
              refine (rblanks_ok b s m false _ ((A.out.2.2.2.2.drewN _).setFar false) hs hm).mono ?_
              rintro e w3 ⟨rfl, hm3, hr3⟩
              have HM := hide (((A.out.2.2.2.1.drewN n).set 3 (.bool false)).trans hm3)
              have HR := hide hr3
              clear hm3 hr3
              go_wp2
              go_ret
              have h10 := unhide HE
              have h11 := unhide H8
              have e1 : digitsR s p = .inr (digV s p (m - p), m) := by unfold digitsR; rw [if_neg (by omega), if_neg (by omega), h10]
              refine Or.inr ⟨neg true (digV s p (m - p)), m, unhide HN _ e1, rfl, unhide HM, ?_⟩
              rw [show (false || farV (neg true (digV s p (m - p)))) = false from by first | rfl | (unfold farV neg; simp; omega)]
              exact unhide HR
  | false =>
    rw [hneg] at hpe HN
    have hx0 : (hv s k false == 45) = false := hv_ne (by omega) hneg
    generalize hx : hv s k false = x at *
    have HX := hide hx
    clear hneg hx
    go_enter Tryz.func150, Tryz.ntmps150
    go_wp2_with (go_at_call 121; refine (rhere_any _ _ k false far _ (by exact unhide H)).mono ?_; rintro e w' ⟨rfl, n, rfl⟩; rw [unhide HX])
    have HR : Hid (Mv b w (w.drewN n) ∧ RR b s p false far (w.drewN n)) := hide ⟨(Mv.refl b w).drewN n, by
      have : p = k := hpe
      subst this
      exact (unhide H).drewN n⟩
    clear HX hx0
    clear H h1 hf1 hpe
    go_loopg [4, 5] (s.size - p) (fun g nv kv wr => ∃ m, p ≤ m ∧ m ≤ s.size ∧ m - p ≤ 7 ∧ g = s.size - m ∧ digEnd s m = digEnd s p ∧ (∀ j, j < m - p → isDig (byteAt s (p + j)) = true) ∧ nv = .int .i64 (digV s p (m - p)) ∧ kv = .int .i64 ((m - p : Nat) : Int) ∧ Mv b w wr ∧ RR b s m false far wr)
    case atStart => exact ⟨p, Nat.le_refl _, hple, by omega, rfl, rfl, by omega, by rw [Nat.sub_self]; rfl, by rw [Nat.sub_self]; rfl, (unhide HR).1, (unhide HR).2⟩
    case round =>
      obtain ⟨m, hpm, hm, h7, hg, hn, hd, rfl, rfl, hmv, hrd⟩ := hrel
      clear HR
      have h0 := hrd.text
      have h1 := hrd.at
      have h2 := hrd.badC
      have h3 := hrd.farC
      have hf1 := hrd.free 1
      have hf2 := hrd.free 2
      have hf3 := hrd.free 3
      have hv7 := digV_seven h7 hd
      obtain ⟨hv0, hv9⟩ := hv7
      have A : Aside (gk = s.size - m ∧ digEnd s m = digEnd s p ∧ (∀ j, j < m - p → isDig (byteAt s (p + j)) = true) ∧ Mv b w wr ∧ RR b s m false far wr) := ⟨hg, hn, hd, hmv, hrd⟩
      clear hg hn hmv hrd hd
      cases hdig : isDig (byteAt s m) with
      | true =>
        have hlt : m < s.size := by
          rcases Nat.lt_or_ge m s.size with h | h
          · exact h
          · rw [byteAt_out h] at hdig; cases hdig
        have hbd := isDig_bd hdig
        rw [byteAt_in hlt] at hbd
        obtain ⟨hb1, hb2⟩ := hbd
        have HB := hide hdig
        have HX := hide (hv_in hlt)
        have HD : Hid (isDig (s[m].toNat : Int) = true) := hide (by rw [← byteAt_in hlt]; exact hdig)
        clear hdig
        by_cases h8 : m - p = 7
        · have h8b : (((m - p : Nat) : Int) == 7) = true := by rw [beq_iff_eq]; omega
          have H8 := hide h8
          clear h8
          go_wp2_with (first | (go_at_call 121; refine (rhere_any _ _ m false _ _ (by exact A.out.2.2.2.2)).mono ?_; rintro e w' ⟨rfl, n, rfl⟩; rw [unhide HX]) | (go_at_call 168; refine (rdigit_any _ _).mono ?_; rintro e w2' ⟨rfl, hw2⟩; rw [unhide HD]; subst hw2))
          go_ret
          obtain ⟨hg, hn, hd, hmv, hrd⟩ := A.out
          have h9 := unhide H8
          have : digEnd s (m + 1) = digEnd s p := by rw [← hn]; exact (skipTo_step hlt (unhide HB)).symm
          have h10 := digEnd_ge s (m + 1)
          have e1 : digitsR s p = .inl m := by unfold digitsR; rw [if_pos (by omega), show p + 7 = m by omega]
          refine Or.inl ⟨m, unhide HN _ e1, rfl, ?_, ?_⟩
          · exact (hmv.drewN _).set _ _
          · exact (hrd.drewN _).setBad true
        · have h8b : (((m - p : Nat) : Int) == 7) = false := by rw [beq_eq_false_iff_ne]; omega
          have H8 := hide h8
          clear h8
          go_wp2_with (first | (go_at_call 121; refine (rhere_any _ _ m false _ _ (by exact A.out.2.2.2.2)).mono ?_; rintro e w' ⟨rfl, n, rfl⟩; rw [unhide HX]) | (go_at_call 168; refine (rdigit_any _ _).mono ?_; rintro e w2' ⟨rfl, hw2⟩; rw [unhide HD]; subst hw2))
          go_roundg (s.size - (m + 1))
          case measure => obtain ⟨hg, _⟩ := A.out; omega
          case rel =>
            obtain ⟨hg, hn, hd, hmv, hrd⟩ := A.out
            have h9 := unhide H8
            refine ⟨m + 1, by omega, by omega, by omega, rfl, by rw [← hn]; exact (skipTo_step hlt (unhide HB)).symm, ?_, ?_, ?_, ?_, ?_⟩
            · intro j hj
              by_cases hj2 : j < m - p
              · exact hd j hj2
              · rw [show p + j = m by omega]; exact unhide HB
            · rw [digV_lt hpm hlt]
            · rw [show ((m - p : Nat) : Int) + 1 = ((m + 1 - p : Nat) : Int) by omega]
            · exact (hmv.drewN _).set _ _
            · rw [show ((m : Int) + 1) = ((m + 1 : Nat) : Int) from by omega]
              exact (hrd.drewN _).setAt (m + 1)
      | false =>
        have HD : Hid (isDig (hv s m false) = false) := hide (by rw [hv_dig]; exact hdig)
        have he : digEnd s p = m := by rw [← A.out.2.1]; exact skipTo_stop hdig
        have HE := hide he
        clear he hdig
        generalize hx : hv s m false = x at *
        have HX := hide hx
        clear hx
        by_cases h8 : m = p
        · have h8b : (((m - p : Nat) : Int) == 0) = true := by rw [beq_iff_eq]; omega
          have H8 := hide h8
          clear h8
          go_wp2_with (first | (go_at_call 121; refine (rhere_any _ _ m false _ _ (by exact A.out.2.2.2.2)).mono ?_; rintro e w' ⟨rfl, n, rfl⟩; rw [unhide HX]) | (go_at_call 168; refine (rdigit_any _ _).mono ?_; rintro e w2' ⟨rfl, hw2⟩; rw [unhide HD]; subst hw2))
          go_ret
          obtain ⟨hg, hn, hd, hmv, hrd⟩ := A.out
          have h9 := unhide H8
          have h10 := unhide HE
          have e1 : digitsR s p = .inl p := by unfold digitsR; rw [if_neg (by omega), if_pos (by omega)]
          refine Or.inl ⟨p, unhide HN _ e1, rfl, (hmv.drewN _).set _ _, ?_⟩
          have := (hrd.drewN n).setBad true
          rw [h9] at this
          exact this
        · have h8b : (((m - p : Nat) : Int) == 0) = false := by rw [beq_eq_false_iff_ne]; omega
          have H8 := hide h8
          clear h8
          cases far with
          | true =>
            go_wp2_with (first | (go_at_call 121; refine (rhere_any _ _ m false _ _ (by exact A.out.2.2.2.2)).mono ?_; rintro e w' ⟨rfl, n, rfl⟩; rw [unhide HX]) | (go_at_call 168; refine (rdigit_any _ _).mono ?_; rintro e w2' ⟨rfl, hw2⟩; rw [unhide HD]; subst hw2))
            refine (rblanks_ok b s m true _ ((A.out.2.2.2.2.drewN _).setFar true) hs hm).mono ?_
            rintro e w3 ⟨rfl, hm3, hr3⟩
            have HM := hide (((A.out.2.2.2.1.drewN n).set 3 (.bool true)).trans hm3)
            have HR := hide hr3
            clear hm3 hr3
            go_wp2
            go_ret
            have h10 := unhide HE
            have h11 := unhide H8
            have e1 : digitsR s p = .inr (digV s p (m - p), m) := by unfold digitsR; rw [if_neg (by omega), if_neg (by omega), h10]
            refine Or.inr ⟨neg false (digV s p (m - p)), m, unhide HN _ e1, rfl, unhide HM, ?_⟩
            rw [show (true || farV (neg false (digV s p (m - p)))) = true from by first | rfl | (unfold farV neg; simp; omega)]
            exact unhide HR
          | false =>
            by_cases h9 : (1000000 : Int) < digV s p (m - p)
            · have h9b : decide ((1000000 : Int) < digV s p (m - p)) = true := by simpa using h9
              go_wp2_with (first | (go_at_call 121; refine (rhere_any _ _ m false _ _ (by exact A.out.2.2.2.2)).mono ?_; rintro e w' ⟨rfl, n, rfl⟩; rw [unhide HX]) | (go_at_call 168; refine (rdigit_any _ _).mono ?_; rintro e w2' ⟨rfl, hw2⟩; rw [unhide HD]; subst hw2))
              refine (rblanks_ok b s m true _ ((A.out.2.2.2.2.drewN _).setFar true) hs hm).mono ?_
              rintro e w3 ⟨rfl, hm3, hr3⟩
              have HM := hide (((A.out.2.2.2.1.drewN n).set 3 (.bool true)).trans hm3)
              have HR := hide hr3
              clear hm3 hr3
              go_wp2
              go_ret
              have h10 := unhide HE
              have h11 := unhide H8
              have e1 : digitsR s p = .inr (digV s p (m - p), m) := by unfold digitsR; rw [if_neg (by omega), if_neg (by omega), h10]
              refine Or.inr ⟨neg false (digV s p (m - p)), m, unhide HN _ e1, rfl, unhide HM, ?_⟩
              rw [show (false || farV (neg false (digV s p (m - p)))) = true from by first | rfl | (unfold farV neg; simp; omega)]
              exact unhide HR
            · have h9b : decide ((1000000 : Int) < digV s p (m - p)) = false := by simpa using h9
              go_wp2_with (first | (go_at_call 121; refine (rhere_any _ _ m false _ _ (by exact A.out.2.2.2.2)).mono ?_; rintro e w' ⟨rfl, n, rfl⟩; rw [unhide HX]) | (go_at_call 168; refine (rdigit_any _ _).mono ?_; rintro e w2' ⟨rfl, hw2⟩; rw [unhide HD]; subst hw2))
              refine (rblanks_ok b s m false _ ((A.out.2.2.2.2.drewN _).setFar false) hs hm).mono ?_
              rintro e w3 ⟨rfl, hm3, hr3⟩
              have HM := hide (((A.out.2.2.2.1.drewN n).set 3 (.bool false)).trans hm3)
              have HR := hide hr3
              clear hm3 hr3
              go_wp2
              go_ret
              have h10 := unhide HE
              have h11 := unhide H8
              have e1 : digitsR s p = .inr (digV s p (m - p), m) := by unfold digitsR; rw [if_neg (by omega), if_neg (by omega), h10]
              refine Or.inr ⟨neg false (digV s p (m - p)), m, unhide HN _ e1, rfl, unhide HM, ?_⟩
              rw [show (false || farV (neg false (digV s p (m - p)))) = false from by first | rfl | (unfold farV neg; simp; omega)]
              exact unhide HR
end Go.Proofs.YtdgbmcbkbkbdoaaGreatDoor
