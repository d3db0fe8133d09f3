import Derived.Test.YthnggjaecngbiaaDoorRdE
namespace Go.Proofs.YthnggjaecngbiaaDoor
open Go.RowKit

def numberTestR (s : ByteArray) (k : Nat) : Res PTest :=
  match numberR s k with
  | .inl p => .inl p
  | .inr (lo, q) =>
    if inR s (nextP s q) 46 46 then
      if inR s (nextP s q + 1) 46 46 then
        match numberR s (nextP s q + 1 + 1) with
        | .inl p => .inl p
        | .inr (hi, r) => .inr (⟨0, 4, lo, hi⟩, r)
      else .inl (nextP s q + 1)
    else .inr (⟨0, 3, lo, 0⟩, nextP s q)

set_option maxHeartbeats 800000 in
theorem numberTest_any (b : Nat) (s : ByteArray) (k : Nat) (w : World) (hr : Rd 54 b s k w) (hs : s.size ≤ 1000) (hk : k ≤ s.size) :
    Calls Tryd.prog 81 #[.pointer (some ⟨b, 0, none⟩)] w fun e w' => (∃ p, numberTestR s k = .inl p ∧ e = .panicked [{ v := .iface 36 (.agg #[.int .i64 (p : Int)]), recovered := false }] ∧ ∃ m, Moved 54 b s m w w') ∨ (∃ t q, numberTestR s k = .inr (t, q) ∧ e = .returned (tv t) ∧ Moved 54 b s q w w') := by
  have hlt := hr.lt
  have H := hide hr
  clear hr
  go_enter Tryd.func81, Tryd.ntmps81
  go_wp2_with fail
  refine (number_any _ _ k _ ((unhide H).alloc _) hs hk).mono ?_
  rintro e w1 (⟨p, hd, rfl, m, hm1⟩ | ⟨lo, q, hd, rfl, hm1⟩)
  · have HF : Hid (numberTestR s k = .inl p) := hide (by unfold numberTestR; rw [hd])
    have HM := hide hm1
    clear hd hm1
    go_wp2
    exact ⟨rfl, Or.inl ⟨p, HF.out, rfl, m, (unhide HM).of_alloc⟩⟩
  have hbd := numberR_bd hk hd
  obtain ⟨⟨hlo, hhi⟩, hkq, hq⟩ := hbd
  have hp := nextP_le hq
  have HD := hide hd
  have HM := hide hm1
  clear hd hm1
  cases h1 : inR s (nextP s q) 46 46 with
  | false =>
    have HF : Hid (numberTestR s k = .inr (⟨0, 3, lo, 0⟩, nextP s q)) := hide (by unfold numberTestR; rw [unhide HD]; simp only [h1]; rfl)
    have H1 := hide h1
    clear h1
    go_wp2_with (go_at_call 42; refine (take_no _ _ q _ _ (by exact (unhide HM).rd) hs hq (by simp) (by exact unhide H1)).mono ?_; rintro e w2 ⟨rfl, hm2⟩; have HN := hide ((unhide HM).trans hm2); clear hm2; obtain ⟨c0, c1, c2, c3, f0, f1, f2, f3⟩ := cells4 ((unhide HN).kept hlt))
    exact bodyPost_ret (v := tv ⟨0, 3, lo, 0⟩) (by simp [results, Tryd.results81, go_sem, tv, c0, c1, c2, c3]) rfl (Or.inr ⟨⟨0, 3, lo, 0⟩, nextP s q, HF.out, rfl, (unhide HN).of_alloc.put4 (Nat.le_refl _) hlt _ _ _ _⟩)
  | true =>
    have hlt1 := inR_lt (by omega) h1
    have H1 := hide h1
    cases h2 : inR s (nextP s q + 1) 46 46 with
    | false =>
      have HF : Hid (numberTestR s k = .inl (nextP s q + 1)) := hide (by unfold numberTestR; rw [unhide HD]; simp only [h1, h2]; rfl)
      have H2 := hide h2
      clear h1 h2
      go_wp2_with (go_at_call 42; refine (take_yes _ _ q _ _ (by exact (unhide HM).rd) hs hq (by simp) (by exact unhide H1)).mono ?_; rintro e w2 ⟨rfl, hm2⟩; have HN := hide ((unhide HM).trans hm2); clear hm2)
      refine (mustHere_no _ _ _ _ _ (unhide HN).rd (by simp) (unhide H2)).mono ?_
      rintro e w3 ⟨rfl, hm3⟩
      have HO := hide ((unhide HN).trans hm3)
      clear hm3
      go_wp2
      exact ⟨rfl, Or.inl ⟨nextP s q + 1, HF.out, rfl, _, (unhide HO).of_alloc⟩⟩
    | true =>
      have hlt2 := inR_lt (by omega) h2
      have H2 := hide h2
      have HG : Hid (numberTestR s k = match numberR s (nextP s q + 1 + 1) with | .inl p => .inl p | .inr (hi, r) => .inr (⟨0, 4, lo, hi⟩, r)) := hide (by unfold numberTestR; rw [unhide HD]; simp only [h1, h2]; rfl)
      clear h1 h2
      go_wp2_with (go_at_call 42; refine (take_yes _ _ q _ _ (by exact (unhide HM).rd) hs hq (by simp) (by exact unhide H1)).mono ?_; rintro e w2 ⟨rfl, hm2⟩; have HN := hide ((unhide HM).trans hm2); clear hm2)
      refine (mustHere_yes _ _ _ _ _ (unhide HN).rd hs (by simp) (unhide H2)).mono ?_
      rintro e w3 ⟨rfl, hm3⟩
      have HO := hide ((unhide HN).trans hm3)
      clear hm3 HN
      go_wp2_with fail
      refine (number_any _ _ _ _ (unhide HO).rd hs (by omega)).mono ?_
      rintro e w4 (⟨p, hd, rfl, m, hm4⟩ | ⟨hi, r, hd, rfl, hm4⟩)
      · have HF : Hid (numberTestR s k = .inl p) := hide (by rw [unhide HG, hd])
        have HP := hide ((unhide HO).trans hm4)
        clear hd hm4
        go_wp2
        exact ⟨rfl, Or.inl ⟨p, HF.out, rfl, m, (unhide HP).of_alloc⟩⟩
      · have HF : Hid (numberTestR s k = .inr (⟨0, 4, lo, hi⟩, r)) := hide (by rw [unhide HG, hd])
        have HP := hide ((unhide HO).trans hm4)
        clear hd hm4
        obtain ⟨c0, c1, c2, c3, f0, f1, f2, f3⟩ := cells4 ((unhide HP).kept hlt)
        go_wp2
        exact bodyPost_ret (v := tv ⟨0, 4, lo, hi⟩) (by simp [results, Tryd.results81, go_sem, tv, c0, c1, c2, c3]) rfl (Or.inr ⟨⟨0, 4, lo, hi⟩, r, HF.out, rfl, (unhide HP).of_alloc.put4 (Nat.le_refl _) hlt _ _ _ _⟩)

end Go.Proofs.YthnggjaecngbiaaDoor
