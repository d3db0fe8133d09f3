import Derived.Test.YthnggjaecngbiaaDoorRdC
namespace Go.Proofs.YthnggjaecngbiaaDoor
open Go.RowKit

/-- Where the letters end after i of them were looked at, and the sum so far. -/
def mkPos (s : ByteArray) (k : Nat) : Nat → Nat
  | 0 => k
  | 1 => mk1 s k
  | 2 => mk2 s k
  | _ => mk3 s k
def mkSum (s : ByteArray) (k : Nat) : Nat → Nat
  | 0 => 0
  | 1 => bit (inR s k 97 97) 1
  | 2 => bit (inR s k 97 97) 1 + bit (inR s (mk1 s k) 98 98) 2
  | _ => mkSet s k
theorem mkSum_le (s : ByteArray) (k i : Nat) : mkSum s k i ≤ 7 := by
  unfold mkSum mkSet bit
  split <;> (repeat' split) <;> omega
theorem mkPos_le {s : ByteArray} {k : Nat} (h : k ≤ s.size) (i : Nat) : mkPos s k i ≤ s.size := by
  unfold mkPos
  split
  · exact h
  · exact mk1_le h
  · exact mk2_le h
  · exact mk3_le h

set_option maxHeartbeats 400000 in
theorem marks_any (b : Nat) (s : ByteArray) (k : Nat) (w : World) (hr : Rd 54 b s k w) (hs : s.size ≤ 1000) (hk : k ≤ s.size) :
    Calls Tryd.prog 43 #[.pointer (some ⟨b, 0, none⟩)] w fun e w' => (∃ p, marksR s k = .inl p ∧ e = .panicked [{ v := .iface 36 (.agg #[.int .i64 (p : Int)]), recovered := false }] ∧ ∃ m, Moved 54 b s m w w') ∨ (∃ v q, marksR s k = .inr (v, q) ∧ e = .returned (.int .i64 (v : Int)) ∧ Moved 54 b s q w w') := by
  have H := hide hr
  clear hr
  go_enter Tryd.func43, Tryd.ntmps43
  go_wp2_with fail
  go_loopg [3, 5] 4 (fun g n i wr => ∃ j : Nat, j ≤ 3 ∧ g = 4 - j ∧ i = .int .i64 j ∧ n = .int .i64 (mkSum s k j : Nat) ∧ Moved 54 b s (mkPos s k j) w wr)
  case atStart => exact ⟨0, by omega, rfl, rfl, rfl, Moved.refl (unhide H)⟩
  case round =>
    obtain ⟨j, hj, hg, rfl, rfl, hmv⟩ := hrel
    clear H
    have h1 := hmv.rd.at
    have hsz := mkPos_le hk j
    have hle := mkSum_le s k j
    have A : Aside (gk = 4 - j ∧ Moved 54 b s (mkPos s k j) w wr) := ⟨hg, hmv⟩
    clear hg hmv
    rcases (by omega : j = 0 ∨ j = 1 ∨ j = 2 ∨ j = 3) with e | e | e | e
    all_goals subst e
    all_goals try clear hj
    case inr.inr.inr =>
      by_cases h0 : mkSum s k 3 = 0
      · have h0b : ((mkSum s k 3 : Nat) : Int) == 0 := by rw [h0]; rfl
        have H0 := hide h0
        clear h0
        go_wp2_with fail
        refine ⟨rfl, Or.inl ⟨mkPos s k 3, ?_, rfl, _, A.out.2⟩⟩
        have h9 : mkSet s k = 0 := unhide H0
        unfold marksR
        rw [if_pos h9]; rfl
      · have h0b : (((mkSum s k 3 : Nat) : Int) == 0) = false := by rw [beq_eq_false_iff_ne]; omega
        have H0 := hide h0
        clear h0
        go_wp2_with fail
        go_ret
        refine Or.inr ⟨mkSum s k 3, mkPos s k 3, ?_, rfl, A.out.2⟩
        have h9 : ¬ mkSet s k = 0 := unhide H0
        unfold marksR
        rw [if_neg h9]; rfl
    case inl =>
      cases hc : inR s (mkPos s k 0) 97 97 with
      | true =>
        have HC : Hid (inR s (mkPos s k 0) 97 97 = true ∧ mkSum s k 1 = mkSum s k 0 + 1 ∧ mkPos s k 1 = mkPos s k 0 + 1) := ⟨hc, by simp only [mkPos] at hc; simp [mkSum, bit, hc], by change adv (inR s (mkPos s k 0) 97 97) (mkPos s k 0) = _; rw [hc]; rfl⟩
        clear hc
        go_wp2_with (go_at_call 59; refine (takeHere_yes _ _ (mkPos s k 0) _ _ (by exact A.out.2.rd) hs (by simp) (by exact HC.out.1)).mono ?_; rintro e w1 ⟨rfl, hm1⟩; have HM := hide hm1; clear hm1)
        go_roundg (4 - 1)
        case measure => have := A.out.1; omega
        case rel =>
          refine ⟨1, by omega, rfl, rfl, ?_, ?_⟩
          · rw [HC.out.2.1]; first | rfl | go_num
          · rw [HC.out.2.2]; exact A.out.2.trans (unhide HM)
      | false =>
        have HC : Hid (inR s (mkPos s k 0) 97 97 = false ∧ mkSum s k 1 = mkSum s k 0 ∧ mkPos s k 1 = mkPos s k 0) := ⟨hc, by simp only [mkPos] at hc; simp [mkSum, bit, hc], by change adv (inR s (mkPos s k 0) 97 97) (mkPos s k 0) = _; rw [hc]; rfl⟩
        clear hc
        go_wp2_with (go_at_call 59; refine (takeHere_no _ _ (mkPos s k 0) _ _ (by exact A.out.2.rd) (by simp) (by exact HC.out.1)).mono ?_; rintro e w1 ⟨rfl, hm1⟩; have HM := hide hm1; clear hm1)
        go_roundg (4 - 1)
        case measure => have := A.out.1; omega
        case rel =>
          refine ⟨1, by omega, rfl, rfl, ?_, ?_⟩
          · rw [HC.out.2.1]
          · rw [HC.out.2.2]; exact A.out.2.trans (unhide HM)
    case inr.inl =>
      cases hc : inR s (mkPos s k 1) 98 98 with
      | true =>
        have HC : Hid (inR s (mkPos s k 1) 98 98 = true ∧ mkSum s k 2 = mkSum s k 1 + 2 ∧ mkPos s k 2 = mkPos s k 1 + 1) := ⟨hc, by simp only [mkPos] at hc; simp [mkSum, bit, hc], by change adv (inR s (mkPos s k 1) 98 98) (mkPos s k 1) = _; rw [hc]; rfl⟩
        clear hc
        go_wp2_with (go_at_call 59; refine (takeHere_yes _ _ (mkPos s k 1) _ _ (by exact A.out.2.rd) hs (by simp) (by exact HC.out.1)).mono ?_; rintro e w1 ⟨rfl, hm1⟩; have HM := hide hm1; clear hm1)
        go_roundg (4 - 2)
        case measure => have := A.out.1; omega
        case rel =>
          refine ⟨2, by omega, rfl, rfl, ?_, ?_⟩
          · rw [HC.out.2.1]; first | rfl | go_num
          · rw [HC.out.2.2]; exact A.out.2.trans (unhide HM)
      | false =>
        have HC : Hid (inR s (mkPos s k 1) 98 98 = false ∧ mkSum s k 2 = mkSum s k 1 ∧ mkPos s k 2 = mkPos s k 1) := ⟨hc, by simp only [mkPos] at hc; simp [mkSum, bit, hc], by change adv (inR s (mkPos s k 1) 98 98) (mkPos s k 1) = _; rw [hc]; rfl⟩
        clear hc
        go_wp2_with (go_at_call 59; refine (takeHere_no _ _ (mkPos s k 1) _ _ (by exact A.out.2.rd) (by simp) (by exact HC.out.1)).mono ?_; rintro e w1 ⟨rfl, hm1⟩; have HM := hide hm1; clear hm1)
        go_roundg (4 - 2)
        case measure => have := A.out.1; omega
        case rel =>
          refine ⟨2, by omega, rfl, rfl, ?_, ?_⟩
          · rw [HC.out.2.1]
          · rw [HC.out.2.2]; exact A.out.2.trans (unhide HM)
    case inr.inr.inl =>
      cases hc : inR s (mkPos s k 2) 99 99 with
      | true =>
        have HC : Hid (inR s (mkPos s k 2) 99 99 = true ∧ mkSum s k 3 = mkSum s k 2 + 4 ∧ mkPos s k 3 = mkPos s k 2 + 1) := ⟨hc, by simp only [mkPos] at hc; simp [mkSum, mkSet, bit, hc], by change adv (inR s (mkPos s k 2) 99 99) (mkPos s k 2) = _; rw [hc]; rfl⟩
        clear hc
        go_wp2_with (go_at_call 59; refine (takeHere_yes _ _ (mkPos s k 2) _ _ (by exact A.out.2.rd) hs (by simp) (by exact HC.out.1)).mono ?_; rintro e w1 ⟨rfl, hm1⟩; have HM := hide hm1; clear hm1)
        go_roundg (4 - 3)
        case measure => have := A.out.1; omega
        case rel =>
          refine ⟨3, by omega, rfl, rfl, ?_, ?_⟩
          · rw [HC.out.2.1]; first | rfl | go_num
          · rw [HC.out.2.2]; exact A.out.2.trans (unhide HM)
      | false =>
        have HC : Hid (inR s (mkPos s k 2) 99 99 = false ∧ mkSum s k 3 = mkSum s k 2 ∧ mkPos s k 3 = mkPos s k 2) := ⟨hc, by simp only [mkPos] at hc; simp [mkSum, mkSet, bit, hc], by change adv (inR s (mkPos s k 2) 99 99) (mkPos s k 2) = _; rw [hc]; rfl⟩
        clear hc
        go_wp2_with (go_at_call 59; refine (takeHere_no _ _ (mkPos s k 2) _ _ (by exact A.out.2.rd) (by simp) (by exact HC.out.1)).mono ?_; rintro e w1 ⟨rfl, hm1⟩; have HM := hide hm1; clear hm1)
        go_roundg (4 - 3)
        case measure => have := A.out.1; omega
        case rel =>
          refine ⟨3, by omega, rfl, rfl, ?_, ?_⟩
          · rw [HC.out.2.1]
          · rw [HC.out.2.2]; exact A.out.2.trans (unhide HM)

end Go.Proofs.YthnggjaecngbiaaDoor
