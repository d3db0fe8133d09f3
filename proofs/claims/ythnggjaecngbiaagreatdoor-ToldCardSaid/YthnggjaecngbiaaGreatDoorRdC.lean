import Derived.Test.YthnggjaecngbiaaGreatDoorRdB
namespace Go.Proofs.YthnggjaecngbiaaGreatDoor
open Go.RowKit

set_option maxHeartbeats 400000 in
theorem digits_any (b : Nat) (s : ByteArray) (k : Nat) (w : World) (hr : Rd 152 b s k w) (hs : s.size ≤ 1000) (hk : k ≤ s.size) :
    Calls Tryz.prog 195 #[.pointer (some ⟨b, 0, none⟩)] w fun e w' => (∃ p, digitsR s k = .inl p ∧ e = .panicked [{ v := .iface 110 (.agg #[.int .i64 (p : Int)]), recovered := false }] ∧ ∃ m, Moved 152 b s m w w') ∨ (∃ v q, digitsR s k = .inr (v, q) ∧ e = .returned (.int .i64 v) ∧ Moved 152 b s q w w') := by
  have h1 := hr.at
  have H := hide hr
  clear hr
  go_enter Tryz.func195, Tryz.ntmps195
  go_wp2_with fail
  clear h1
  go_loopg [4] (s.size - k) (fun g n wr => ∃ m, k ≤ m ∧ m ≤ s.size ∧ m - k ≤ 7 ∧ g = s.size - m ∧ digEnd s m = digEnd s k ∧ (∀ j, j < m - k → isDig (byteAt s (k + j)) = true) ∧ n = .int .i64 (digV s k (m - k)) ∧ Moved 152 b s m w wr)
  case atStart => exact ⟨k, Nat.le_refl _, hk, by omega, rfl, rfl, by omega, by rw [Nat.sub_self]; rfl, Moved.refl (unhide H)⟩
  case round =>
    obtain ⟨m, hkm, hm, h7, hg, hn, hd, rfl, hmv⟩ := hrel
    clear H
    have h0 := hmv.rd.text
    have h1 := hmv.rd.at
    have hf := hmv.rd.free
    have hv := digV_seven h7 hd
    have A : Aside (gk = s.size - m ∧ digEnd s m = digEnd s k ∧ (∀ j, j < m - k → isDig (byteAt s (k + j)) = true) ∧ Moved 152 b s m w wr) := ⟨hg, hn, hd, hmv⟩
    clear hg hn hmv hd
    cases h32 : inR s m 48 57 with
    | true =>
      have hlt := inR_lt (by omega) h32
      have hbd := isDig_bd h32
      rw [byteAt_in hlt] at hbd
      obtain ⟨hb1, hb2⟩ := hbd
      have HB := hide h32
      clear h32
      by_cases h8 : m - k = 7
      · have h8b : ((m : Int) - k == 7) = true := by rw [beq_iff_eq]; omega
        have H8 := hide h8
        clear h8
        go_wp2_with (go_at_call 147; refine (within_any _ _ m _ _ _ (by exact A.out.2.2.2.rd) (by omega)).mono ?_; rintro e w' ⟨rfl, n, rfl⟩; rw [unhide HB])
        refine ⟨rfl, Or.inl ⟨m, ?_, rfl, m, A.out.2.2.2.drewN _⟩⟩
        obtain ⟨hg, hn, hd, hmv⟩ := A.out
        have h9 := unhide H8
        have : digEnd s (m + 1) = digEnd s k := by rw [← hn]; exact (skipTo_step hlt (unhide HB)).symm
        have h10 := digEnd_ge s (m + 1)
        unfold digitsR
        rw [if_pos (by omega), show k + 7 = m by omega]
      · have h8b : ((m : Int) - k == 7) = false := by rw [beq_eq_false_iff_ne]; omega
        have H8 := hide h8
        clear h8
        go_wp2_with (go_at_call 147; refine (within_any _ _ m _ _ _ (by exact A.out.2.2.2.rd) (by omega)).mono ?_; rintro e w' ⟨rfl, n, rfl⟩; rw [unhide HB])
        go_quiet (fail)
        go_wp2
        go_roundg (s.size - (m + 1))
        case measure => obtain ⟨hg, _⟩ := A.out; omega
        case rel =>
          obtain ⟨hg, hn, hd, hmv⟩ := A.out
          have h9 := unhide H8
          refine ⟨m + 1, by omega, by omega, by omega, rfl, by rw [← hn]; exact (skipTo_step hlt (unhide HB)).symm, ?_, ?_, ?_⟩
          · intro j hj
            by_cases hj2 : j < m - k
            · exact hd j hj2
            · rw [show k + j = m by omega]; exact unhide HB
          · rw [show m + 1 - k = (m - k) + 1 by omega]
            simp only [digV]
            rw [show k + (m - k) = m by omega, byteAt_in hlt]
          · rw [show ((m : Int) + 1) = ((m + 1 : Nat) : Int) from by omega]
            exact (hmv.drewN _).set (m + 1)
    | false =>
      have HB := hide h32
      clear h32
      have he : digEnd s k = m := by rw [← A.out.2.1]; exact skipTo_stop (unhide HB)
      have HE := hide he
      clear he
      by_cases h8 : m = k
      · have h8b : ((m : Int) == k) = true := by rw [beq_iff_eq]; omega
        have H8 := hide h8
        clear h8
        go_wp2_with (go_at_call 147; refine (within_any _ _ m _ _ _ (by exact A.out.2.2.2.rd) (by omega)).mono ?_; rintro e w' ⟨rfl, n, rfl⟩; rw [unhide HB])
        refine ⟨rfl, Or.inl ⟨m, ?_, rfl, m, A.out.2.2.2.drewN _⟩⟩
        have h9 := unhide H8
        have h10 := unhide HE
        unfold digitsR
        rw [if_neg (by omega), if_pos (by omega), h9]
      · have h8b : ((m : Int) == k) = false := by rw [beq_eq_false_iff_ne]; omega
        have H8 := hide h8
        clear h8
        go_wp2_with (go_at_call 147; refine (within_any _ _ m _ _ _ (by exact A.out.2.2.2.rd) (by omega)).mono ?_; rintro e w' ⟨rfl, n, rfl⟩; rw [unhide HB])
        go_ret
        refine Or.inr ⟨digV s k (m - k), m, ?_, rfl, A.out.2.2.2.drewN _⟩
        have h9 := unhide H8
        have h10 := unhide HE
        unfold digitsR
        rw [if_neg (by omega), if_neg (by omega), h10]

theorem digEnd_all (s : ByteArray) : ∀ (f k j : Nat), k + j < skipTo isDig s f k → isDig (byteAt s (k + j)) = true
  | 0, k, j, h => by simp only [skipTo] at h; omega
  | f + 1, k, j, h => by
    simp only [skipTo] at h
    split at h
    · rename_i hd
      cases j with
      | zero => exact hd
      | succ j => have := digEnd_all s f (k + 1) j (by omega); rw [show k + (j + 1) = k + 1 + j by omega]; exact this
    · omega
theorem digitsR_bd {s : ByteArray} {k q : Nat} {v : Int} (hk : k ≤ s.size) (h : digitsR s k = .inr (v, q)) : (0 ≤ v ∧ v ≤ 9999999) ∧ k ≤ q ∧ q ≤ s.size := by
  unfold digitsR at h
  split at h
  · cases h
  split at h
  · cases h
  simp only [Sum.inr.injEq, Prod.mk.injEq] at h
  obtain ⟨h1, h2⟩ := h
  subst h1 h2
  have h3 := digEnd_ge s k
  exact ⟨digV_seven (by omega) (fun j hj => digEnd_all s (s.size - k) k j (by unfold digEnd at hj; omega)), h3, digEnd_le hk⟩

set_option maxHeartbeats 400000 in
theorem number_any (b : Nat) (s : ByteArray) (k : Nat) (w : World) (hr : Rd 152 b s k w) (hs : s.size ≤ 1000) (hk : k ≤ s.size) :
    Calls Tryz.prog 177 #[.pointer (some ⟨b, 0, none⟩)] w fun e w' => (∃ p, numberR s k = .inl p ∧ e = .panicked [{ v := .iface 110 (.agg #[.int .i64 (p : Int)]), recovered := false }] ∧ ∃ m, Moved 152 b s m w w') ∨ (∃ v q, numberR s k = .inr (v, q) ∧ e = .returned (.int .i64 v) ∧ Moved 152 b s q w w') := by
  have H := hide hr
  clear hr
  have hp := nextP_le hk
  cases hneg : inR s (nextP s k) 45 45 with
  | true =>
    have hlt := inR_lt (by omega) hneg
    have HN : Hid (inR s (nextP s k) 45 45 = true ∧ numAt s k = nextP s k + 1) := ⟨hneg, by unfold numAt; rw [hneg]; rfl⟩
    clear hneg
    go_enter Tryz.func177, Tryz.ntmps177
    go_wp2_with (go_at_call 120; refine (next_any _ _ k _ (by exact unhide H) hs hk).mono ?_; rintro e w1 ⟨rfl, hm1⟩; have HM := hide hm1; clear hm1)
    refine (takeHere_yes _ _ _ _ _ (unhide HM).rd hs (by omega) HN.out.1).mono ?_
    rintro e w2 ⟨rfl, hm2⟩
    have HM2 := hide ((unhide HM).trans hm2)
    clear hm2 HM
    go_wp2_with fail
    refine (digits_any _ _ _ _ (unhide HM2).rd hs (by omega)).mono ?_
    rintro e w3 (⟨p, hd, rfl, m, hm3⟩ | ⟨v, q, hd, rfl, hm3⟩)
    · have HD := hide hd
      have HM3 := hide ((unhide HM2).trans hm3)
      clear hd hm3 HM2
      go_wp2
      refine ⟨rfl, Or.inl ⟨p, ?_, rfl, m, unhide HM3⟩⟩
      unfold numberR; rw [HN.out.2, unhide HD]
    · have HD := hide hd
      have HM3 := hide ((unhide HM2).trans hm3)
      have hv := digitsR_bd (by omega) hd
      clear hd hm3 HM2
      go_wp2
      go_ret
      refine Or.inr ⟨-v, q, ?_, rfl, unhide HM3⟩
      unfold numberR; rw [HN.out.2, unhide HD, HN.out.1]; rfl
  | false =>
    have HN : Hid (inR s (nextP s k) 45 45 = false ∧ numAt s k = nextP s k) := ⟨hneg, by unfold numAt; rw [hneg]; rfl⟩
    clear hneg
    go_enter Tryz.func177, Tryz.ntmps177
    go_wp2_with (go_at_call 120; refine (next_any _ _ k _ (by exact unhide H) hs hk).mono ?_; rintro e w1 ⟨rfl, hm1⟩; have HM := hide hm1; clear hm1)
    refine (takeHere_no _ _ _ _ _ (unhide HM).rd (by omega) HN.out.1).mono ?_
    rintro e w2 ⟨rfl, hm2⟩
    have HM2 := hide ((unhide HM).trans hm2)
    clear hm2 HM
    go_wp2_with fail
    refine (digits_any _ _ _ _ (unhide HM2).rd hs (by omega)).mono ?_
    rintro e w3 (⟨p, hd, rfl, m, hm3⟩ | ⟨v, q, hd, rfl, hm3⟩)
    · have HD := hide hd
      have HM3 := hide ((unhide HM2).trans hm3)
      clear hd hm3 HM2
      go_wp2
      refine ⟨rfl, Or.inl ⟨p, ?_, rfl, m, unhide HM3⟩⟩
      unfold numberR; rw [HN.out.2, unhide HD]
    · have HD := hide hd
      have HM3 := hide ((unhide HM2).trans hm3)
      clear hd hm3 HM2
      go_wp2
      go_ret
      refine Or.inr ⟨v, q, ?_, rfl, unhide HM3⟩
      unfold numberR; rw [HN.out.2, unhide HD, HN.out.1]; rfl

theorem numAt_le {s : ByteArray} {k : Nat} (h : k ≤ s.size) : numAt s k ≤ s.size := adv_le (nextP_le h) (by omega)
theorem numberR_bd {s : ByteArray} {k q : Nat} {v : Int} (hk : k ≤ s.size) (h : numberR s k = .inr (v, q)) : (-9999999 ≤ v ∧ v ≤ 9999999) ∧ k ≤ q ∧ q ≤ s.size := by
  unfold numberR at h
  split at h
  · cases h
  · rename_i v' q' hd
    simp only [Sum.inr.injEq, Prod.mk.injEq] at h
    obtain ⟨h1, h2⟩ := h
    subst h2
    have := digitsR_bd (numAt_le hk) hd
    have hge : k ≤ numAt s k := by unfold numAt adv; have := nextP_ge s k; split <;> omega
    unfold neg at h1
    split at h1 <;> omega

set_option maxHeartbeats 400000 in
theorem policy_any (b : Nat) (s : ByteArray) (k : Nat) (w : World) (hr : Rd 152 b s k w) (hs : s.size ≤ 1000) (hk : k ≤ s.size) :
    Calls Tryz.prog 152 #[.pointer (some ⟨b, 0, none⟩)] w fun e w' => (∃ p, policyR s k = .inl p ∧ e = .panicked [{ v := .iface 110 (.agg #[.int .i64 (p : Int)]), recovered := false }] ∧ ∃ m, Moved 152 b s m w w') ∨ (∃ v q, policyR s k = .inr (v, q) ∧ e = .returned (.int .u8 v) ∧ Moved 152 b s q w w') := by
  have H := hide hr
  clear hr
  have hp := nextP_le hk
  have hid := nextP_idem hk
  have HI := hide hid
  clear hid
  go_enter Tryz.func152, Tryz.ntmps152
  go_wp2_with fail
  go_loopg [4] 6 (fun g i wr => ∃ j : Nat, j ≤ 5 ∧ g = 6 - j ∧ i = .int .i64 j ∧ (∀ l, l < j → byteAt s (nextP s k) ≠ ([85, 70, 83, 78, 80] : List Int).getD l 0) ∧ ∃ m, m ≤ s.size ∧ nextP s m = nextP s k ∧ (j ≠ 0 → m = nextP s k) ∧ Moved 152 b s m w wr)
  case atStart => exact ⟨0, by omega, rfl, rfl, by omega, k, hk, rfl, by omega, Moved.refl (unhide H)⟩
  case round =>
    obtain ⟨j, hj, hg, rfl, hno, m, hm, hnm, hj0, hmv⟩ := hrel
    clear H
    have h1 := hmv.rd.at
    have A : Aside (gk = 6 - j ∧ (∀ l, l < j → byteAt s (nextP s k) ≠ ([85, 70, 83, 78, 80] : List Int).getD l 0) ∧ nextP s m = nextP s k ∧ (j ≠ 0 → m = nextP s k) ∧ Moved 152 b s m w wr) := ⟨hg, hno, hnm, hj0, hmv⟩
    clear hg hno hnm hj0 hmv
    rcases (by omega : j = 0 ∨ j = 1 ∨ j = 2 ∨ j = 3 ∨ j = 4 ∨ j = 5) with e | e | e | e | e | e
    all_goals subst e
    all_goals try clear hj
    case inr.inr.inr.inr.inr =>
      have HM : Hid (m = nextP s k) := A.out.2.2.2.1 (by omega)
      go_wp2_with fail
      refine ⟨rfl, Or.inl ⟨m, ?_, rfl, m, A.out.2.2.2.2⟩⟩
      have hno := A.out.2.1
      have a0 := hno 0 (by omega)
      have a1 := hno 1 (by omega)
      have a2 := hno 2 (by omega)
      have a3 := hno 3 (by omega)
      have a4 := hno 4 (by omega)
      simp at a0 a1 a2 a3 a4
      unfold policyR
      rw [if_neg (by simp [isPol]; omega), HM.out]
    case inl =>
      cases hc : inR s (nextP s k) 85 85 with
      | true =>
        have HC := hide hc
        clear hc
        go_wp2_with (go_at_call 149; refine (take_yes _ _ m _ _ (by exact A.out.2.2.2.2.rd) hs hm (by simp) (by rw [A.out.2.2.1]; exact unhide HC)).mono ?_; rintro e w1 ⟨rfl, hm1⟩; have HM := hide hm1; clear hm1)
        go_ret
        have hb := unhide HC
        rw [inR_one] at hb
        have hb2 : byteAt s (nextP s k) = 85 := by simpa using hb
        refine Or.inr ⟨85, nextP s k + 1, ?_, rfl, ?_⟩
        · unfold policyR
          rw [if_pos (by rw [hb2]; rfl), hb2]
        · rw [← A.out.2.2.1]
          exact A.out.2.2.2.2.trans (unhide HM)
      | false =>
        have HC := hide hc
        clear hc
        go_wp2_with (go_at_call 149; refine (take_no _ _ m _ _ (by exact A.out.2.2.2.2.rd) hs hm (by simp) (by rw [A.out.2.2.1]; exact unhide HC)).mono ?_; rintro e w1 ⟨rfl, hm1⟩; have HM := hide hm1; clear hm1)
        go_roundg (6 - 1)
        case measure => have := A.out.1; omega
        case rel =>
          have hb := unhide HC
          rw [inR_one] at hb
          have hb2 : byteAt s (nextP s k) ≠ 85 := by simpa using hb
          refine ⟨1, by omega, rfl, rfl, ?_, nextP s k, hp, HI.out, fun _ => rfl, ?_⟩
          · intro l hl
            by_cases h9 : l = 0
            · subst h9; exact hb2
            · exact A.out.2.1 l (by omega)
          · have := A.out.2.2.2.2.trans (unhide HM)
            rw [A.out.2.2.1] at this
            exact this
    case inr.inl =>
      cases hc : inR s (nextP s k) 70 70 with
      | true =>
        have HC := hide hc
        clear hc
        go_wp2_with (go_at_call 149; refine (take_yes _ _ m _ _ (by exact A.out.2.2.2.2.rd) hs hm (by simp) (by rw [A.out.2.2.1]; exact unhide HC)).mono ?_; rintro e w1 ⟨rfl, hm1⟩; have HM := hide hm1; clear hm1)
        go_ret
        have hb := unhide HC
        rw [inR_one] at hb
        have hb2 : byteAt s (nextP s k) = 70 := by simpa using hb
        refine Or.inr ⟨70, nextP s k + 1, ?_, rfl, ?_⟩
        · unfold policyR
          rw [if_pos (by rw [hb2]; rfl), hb2]
        · rw [← A.out.2.2.1]
          exact A.out.2.2.2.2.trans (unhide HM)
      | false =>
        have HC := hide hc
        clear hc
        go_wp2_with (go_at_call 149; refine (take_no _ _ m _ _ (by exact A.out.2.2.2.2.rd) hs hm (by simp) (by rw [A.out.2.2.1]; exact unhide HC)).mono ?_; rintro e w1 ⟨rfl, hm1⟩; have HM := hide hm1; clear hm1)
        go_roundg (6 - 2)
        case measure => have := A.out.1; omega
        case rel =>
          have hb := unhide HC
          rw [inR_one] at hb
          have hb2 : byteAt s (nextP s k) ≠ 70 := by simpa using hb
          refine ⟨2, by omega, rfl, rfl, ?_, nextP s k, hp, HI.out, fun _ => rfl, ?_⟩
          · intro l hl
            by_cases h9 : l = 1
            · subst h9; exact hb2
            · exact A.out.2.1 l (by omega)
          · have := A.out.2.2.2.2.trans (unhide HM)
            rw [A.out.2.2.1] at this
            exact this
    case inr.inr.inl =>
      cases hc : inR s (nextP s k) 83 83 with
      | true =>
        have HC := hide hc
        clear hc
        go_wp2_with (go_at_call 149; refine (take_yes _ _ m _ _ (by exact A.out.2.2.2.2.rd) hs hm (by simp) (by rw [A.out.2.2.1]; exact unhide HC)).mono ?_; rintro e w1 ⟨rfl, hm1⟩; have HM := hide hm1; clear hm1)
        go_ret
        have hb := unhide HC
        rw [inR_one] at hb
        have hb2 : byteAt s (nextP s k) = 83 := by simpa using hb
        refine Or.inr ⟨83, nextP s k + 1, ?_, rfl, ?_⟩
        · unfold policyR
          rw [if_pos (by rw [hb2]; rfl), hb2]
        · rw [← A.out.2.2.1]
          exact A.out.2.2.2.2.trans (unhide HM)
      | false =>
        have HC := hide hc
        clear hc
        go_wp2_with (go_at_call 149; refine (take_no _ _ m _ _ (by exact A.out.2.2.2.2.rd) hs hm (by simp) (by rw [A.out.2.2.1]; exact unhide HC)).mono ?_; rintro e w1 ⟨rfl, hm1⟩; have HM := hide hm1; clear hm1)
        go_roundg (6 - 3)
        case measure => have := A.out.1; omega
        case rel =>
          have hb := unhide HC
          rw [inR_one] at hb
          have hb2 : byteAt s (nextP s k) ≠ 83 := by simpa using hb
          refine ⟨3, by omega, rfl, rfl, ?_, nextP s k, hp, HI.out, fun _ => rfl, ?_⟩
          · intro l hl
            by_cases h9 : l = 2
            · subst h9; exact hb2
            · exact A.out.2.1 l (by omega)
          · have := A.out.2.2.2.2.trans (unhide HM)
            rw [A.out.2.2.1] at this
            exact this
    case inr.inr.inr.inl =>
      cases hc : inR s (nextP s k) 78 78 with
      | true =>
        have HC := hide hc
        clear hc
        go_wp2_with (go_at_call 149; refine (take_yes _ _ m _ _ (by exact A.out.2.2.2.2.rd) hs hm (by simp) (by rw [A.out.2.2.1]; exact unhide HC)).mono ?_; rintro e w1 ⟨rfl, hm1⟩; have HM := hide hm1; clear hm1)
        go_ret
        have hb := unhide HC
        rw [inR_one] at hb
        have hb2 : byteAt s (nextP s k) = 78 := by simpa using hb
        refine Or.inr ⟨78, nextP s k + 1, ?_, rfl, ?_⟩
        · unfold policyR
          rw [if_pos (by rw [hb2]; rfl), hb2]
        · rw [← A.out.2.2.1]
          exact A.out.2.2.2.2.trans (unhide HM)
      | false =>
        have HC := hide hc
        clear hc
        go_wp2_with (go_at_call 149; refine (take_no _ _ m _ _ (by exact A.out.2.2.2.2.rd) hs hm (by simp) (by rw [A.out.2.2.1]; exact unhide HC)).mono ?_; rintro e w1 ⟨rfl, hm1⟩; have HM := hide hm1; clear hm1)
        go_roundg (6 - 4)
        case measure => have := A.out.1; omega
        case rel =>
          have hb := unhide HC
          rw [inR_one] at hb
          have hb2 : byteAt s (nextP s k) ≠ 78 := by simpa using hb
          refine ⟨4, by omega, rfl, rfl, ?_, nextP s k, hp, HI.out, fun _ => rfl, ?_⟩
          · intro l hl
            by_cases h9 : l = 3
            · subst h9; exact hb2
            · exact A.out.2.1 l (by omega)
          · have := A.out.2.2.2.2.trans (unhide HM)
            rw [A.out.2.2.1] at this
            exact this
    case inr.inr.inr.inr.inl =>
      cases hc : inR s (nextP s k) 80 80 with
      | true =>
        have HC := hide hc
        clear hc
        go_wp2_with (go_at_call 149; refine (take_yes _ _ m _ _ (by exact A.out.2.2.2.2.rd) hs hm (by simp) (by rw [A.out.2.2.1]; exact unhide HC)).mono ?_; rintro e w1 ⟨rfl, hm1⟩; have HM := hide hm1; clear hm1)
        go_ret
        have hb := unhide HC
        rw [inR_one] at hb
        have hb2 : byteAt s (nextP s k) = 80 := by simpa using hb
        refine Or.inr ⟨80, nextP s k + 1, ?_, rfl, ?_⟩
        · unfold policyR
          rw [if_pos (by rw [hb2]; rfl), hb2]
        · rw [← A.out.2.2.1]
          exact A.out.2.2.2.2.trans (unhide HM)
      | false =>
        have HC := hide hc
        clear hc
        go_wp2_with (go_at_call 149; refine (take_no _ _ m _ _ (by exact A.out.2.2.2.2.rd) hs hm (by simp) (by rw [A.out.2.2.1]; exact unhide HC)).mono ?_; rintro e w1 ⟨rfl, hm1⟩; have HM := hide hm1; clear hm1)
        go_roundg (6 - 5)
        case measure => have := A.out.1; omega
        case rel =>
          have hb := unhide HC
          rw [inR_one] at hb
          have hb2 : byteAt s (nextP s k) ≠ 80 := by simpa using hb
          refine ⟨5, by omega, rfl, rfl, ?_, nextP s k, hp, HI.out, fun _ => rfl, ?_⟩
          · intro l hl
            by_cases h9 : l = 4
            · subst h9; exact hb2
            · exact A.out.2.1 l (by omega)
          · have := A.out.2.2.2.2.trans (unhide HM)
            rw [A.out.2.2.1] at this
            exact this

end Go.Proofs.YthnggjaecngbiaaGreatDoor
