import Derived.Test.YthnggjaecngbiaaDoorRdF
namespace Go.Proofs.YthnggjaecngbiaaDoor
open Go.RowKit

def withNum (k : Int) : Res Int → Res PTest
  | .inl p => .inl p
  | .inr (v, q) => .inr (⟨0, k, v, 0⟩, q)

def bareTestR (s : ByteArray) (k : Nat) : Res PTest :=
  if inR s (nextP s k) 95 95 then .inr (⟨0, 0, 0, 0⟩, nextP s k + 1)
  else if inR s (nextP s k) 60 60 then withNum 5 (numberR s (nextP s k + 1))
  else if inR s (nextP s k) 62 62 then withNum 6 (numberR s (nextP s k + 1))
  else if inR s (nextP s k) 97 122 then wordTestR s (nextP s k)
  else numberTestR s (nextP s k)

set_option maxHeartbeats 1600000 in
theorem bareTest_any (b : Nat) (s : ByteArray) (k : Nat) (w : World) (hr : Rd 54 b s k w) (hs : s.size ≤ 1000) (hk : k ≤ s.size) :
    Calls Tryd.prog 73 #[.pointer (some ⟨b, 0, none⟩)] w fun e w' => (∃ p, bareTestR s k = .inl p ∧ e = .panicked [{ v := .iface 36 (.agg #[.int .i64 (p : Int)]), recovered := false }] ∧ ∃ m, Moved 54 b s m w w') ∨ (∃ t q, bareTestR s k = .inr (t, q) ∧ e = .returned (tv t) ∧ Moved 54 b s q w w') := by
  have hlt := hr.lt
  have hp := nextP_le hk
  have hid := nextP_idem hk
  have HR0 : Hid (Moved 54 b s k (w.alloc (.cells #[.int .i64 0, .int .i64 0, .int .i64 0, .int .i64 0] 74)) (w.alloc (.cells #[.int .i64 0, .int .i64 0, .int .i64 0, .int .i64 0] 74))) := hide (Moved.refl (hr.alloc _))
  clear hr
  cases h1 : inR s (nextP s k) 95 95 with
  | true =>
    have HF : Hid (bareTestR s k = .inr (⟨0, 0, 0, 0⟩, nextP s k + 1)) := hide (by unfold bareTestR; rw [if_pos h1])
    have H1 := hide h1
    clear h1 hid
    go_enter Tryd.func73, Tryd.ntmps73
    go_wp2_with (go_at_call 42; refine (take_yes _ _ k _ _ (by exact (unhide HR0).rd) hs hk (by simp) (by exact unhide H1)).mono ?_; rintro e w1 ⟨rfl, hm2⟩; have HN := hide ((unhide HR0).trans hm2); clear hm2; obtain ⟨c0, c1, c2, c3, f0, f1, f2, f3⟩ := cells4 ((unhide HN).kept hlt))
    exact bodyPost_ret (v := tv ⟨0, 0, 0, 0⟩) (by simp [results, Tryd.results73, go_sem, tv, c0, c1, c2, c3]) rfl (Or.inr ⟨⟨0, 0, 0, 0⟩, nextP s k + 1, HF.out, rfl, (unhide HN).of_alloc.put4 (Nat.le_refl _) hlt _ _ _ _⟩)
  | false =>
  have H1 : Hid (inR s (nextP s (nextP s k)) 95 95 = false ∧ inR s (nextP s k) 95 95 = false) := ⟨by rw [hid]; exact h1, h1⟩
  have HI := hide hid
  clear h1 hid
  cases h2 : inR s (nextP s k) 60 60 with
  | true =>
    have hlt2 := inR_lt (by omega) h2
    have HG : Hid (bareTestR s k = withNum 5 (numberR s (nextP s k + 1))) := hide (by unfold bareTestR; rw [if_neg (by rw [H1.out.2]; simp), if_pos h2])
    have H2 : Hid (inR s (nextP s (nextP s k)) 60 60 = true) := hide (by rw [unhide HI]; exact h2)
    clear h2
    go_enter Tryd.func73, Tryd.ntmps73
    go_wp2_with fail
    refine (take_no _ _ k _ _ (unhide HR0).rd hs hk (by simp) H1.out.2).mono ?_
    rintro e w1 ⟨rfl, hm⟩
    have HR1 := hide ((unhide HR0).trans hm)
    clear hm
    go_wp2_with fail
    refine (take_yes _ _ _ _ _ (unhide HR1).rd hs hp (by simp) (unhide H2)).mono ?_
    rintro e w2 ⟨rfl, hm⟩
    rw [unhide HI] at hm
    have HR2 := hide ((unhide HR1).trans hm)
    clear hm
    go_wp2_with fail
    refine (number_any _ _ _ _ (unhide HR2).rd hs (by omega)).mono ?_
    rintro e w4 (⟨p, hd, rfl, m, hm4⟩ | ⟨v, r, hd, rfl, hm4⟩)
    · have HF : Hid (bareTestR s k = .inl p) := hide (by rw [unhide HG, hd]; rfl)
      have HP := hide ((unhide HR2).trans hm4)
      clear hd hm4
      go_wp2
      exact ⟨rfl, Or.inl ⟨p, HF.out, rfl, m, (unhide HP).of_alloc⟩⟩
    · have HF : Hid (bareTestR s k = .inr (⟨0, 5, v, 0⟩, r)) := hide (by rw [unhide HG, hd]; rfl)
      have HP := hide ((unhide HR2).trans hm4)
      clear hd hm4
      obtain ⟨c0, c1, c2, c3, f0, f1, f2, f3⟩ := cells4 ((unhide HP).kept hlt)
      go_wp2
      exact bodyPost_ret (v := tv ⟨0, 5, v, 0⟩) (by simp [results, Tryd.results73, go_sem, tv, c0, c1, c2, c3]) rfl (Or.inr ⟨⟨0, 5, v, 0⟩, r, HF.out, rfl, (unhide HP).of_alloc.put4 (Nat.le_refl _) hlt _ _ _ _⟩)
  | false =>
  have H2 : Hid (inR s (nextP s (nextP s k)) 60 60 = false ∧ inR s (nextP s k) 60 60 = false) := ⟨by rw [unhide HI]; exact h2, h2⟩
  clear h2
  cases h3 : inR s (nextP s k) 62 62 with
  | true =>
    have hlt2 := inR_lt (by omega) h3
    have HG : Hid (bareTestR s k = withNum 6 (numberR s (nextP s k + 1))) := hide (by unfold bareTestR; rw [if_neg (by rw [H1.out.2]; simp), if_neg (by rw [H2.out.2]; simp), if_pos h3])
    have H3 : Hid (inR s (nextP s (nextP s k)) 62 62 = true) := hide (by rw [unhide HI]; exact h3)
    clear h3
    go_enter Tryd.func73, Tryd.ntmps73
    go_wp2_with fail
    refine (take_no _ _ k _ _ (unhide HR0).rd hs hk (by simp) H1.out.2).mono ?_
    rintro e w1 ⟨rfl, hm⟩
    have HR1 := hide ((unhide HR0).trans hm)
    clear hm
    go_wp2_with fail
    refine (take_no _ _ _ _ _ (unhide HR1).rd hs hp (by simp) H2.out.1).mono ?_
    rintro e w1' ⟨rfl, hm⟩
    rw [unhide HI] at hm
    have HR1' := hide ((unhide HR1).trans hm)
    clear hm
    go_wp2_with fail
    refine (take_yes _ _ _ _ _ (unhide HR1').rd hs hp (by simp) (unhide H3)).mono ?_
    rintro e w2 ⟨rfl, hm⟩
    rw [unhide HI] at hm
    have HR2 := hide ((unhide HR1').trans hm)
    clear hm
    go_wp2_with fail
    refine (number_any _ _ _ _ (unhide HR2).rd hs (by omega)).mono ?_
    rintro e w4 (⟨p, hd, rfl, m, hm4⟩ | ⟨v, r, hd, rfl, hm4⟩)
    · have HF : Hid (bareTestR s k = .inl p) := hide (by rw [unhide HG, hd]; rfl)
      have HP := hide ((unhide HR2).trans hm4)
      clear hd hm4
      go_wp2
      exact ⟨rfl, Or.inl ⟨p, HF.out, rfl, m, (unhide HP).of_alloc⟩⟩
    · have HF : Hid (bareTestR s k = .inr (⟨0, 6, v, 0⟩, r)) := hide (by rw [unhide HG, hd]; rfl)
      have HP := hide ((unhide HR2).trans hm4)
      clear hd hm4
      obtain ⟨c0, c1, c2, c3, f0, f1, f2, f3⟩ := cells4 ((unhide HP).kept hlt)
      go_wp2
      exact bodyPost_ret (v := tv ⟨0, 6, v, 0⟩) (by simp [results, Tryd.results73, go_sem, tv, c0, c1, c2, c3]) rfl (Or.inr ⟨⟨0, 6, v, 0⟩, r, HF.out, rfl, (unhide HP).of_alloc.put4 (Nat.le_refl _) hlt _ _ _ _⟩)
  | false =>
  have H3 : Hid (inR s (nextP s (nextP s k)) 62 62 = false ∧ inR s (nextP s k) 62 62 = false) := ⟨by rw [unhide HI]; exact h3, h3⟩
  clear h3
  cases h4 : inR s (nextP s k) 97 122
  case true =>
    have HG : Hid (bareTestR s k = wordTestR s (nextP s k)) := hide (by unfold bareTestR; rw [if_neg (by rw [H1.out.2]; simp), if_neg (by rw [H2.out.2]; simp), if_neg (by rw [H3.out.2]; simp), if_pos h4])
    have H4 := hide h4
    clear h4
    go_enter Tryd.func73, Tryd.ntmps73
    go_wp2_with fail
    refine (take_no _ _ k _ _ (unhide HR0).rd hs hk (by simp) H1.out.2).mono ?_
    rintro e w1 ⟨rfl, hm⟩
    have HR1 := hide ((unhide HR0).trans hm)
    clear hm
    go_wp2_with fail
    refine (take_no _ _ _ _ _ (unhide HR1).rd hs hp (by simp) H2.out.1).mono ?_
    rintro e w1' ⟨rfl, hm⟩
    rw [unhide HI] at hm
    have HR1' := hide ((unhide HR1).trans hm)
    clear hm
    go_wp2_with fail
    refine (take_no _ _ _ _ _ (unhide HR1').rd hs hp (by simp) H3.out.1).mono ?_
    rintro e w2 ⟨rfl, hm⟩
    rw [unhide HI] at hm
    have HR2 := hide ((unhide HR1').trans hm)
    clear hm
    go_wp2_with fail
    refine (within_any _ _ (nextP s k) _ _ _ (unhide HR2).rd (by simp)).mono ?_
    rintro e w2' ⟨rfl, n, rfl⟩
    rw [unhide H4]
    have HR3 := hide ((unhide HR2).drewN n)
    go_wp2_with fail
    refine (wordTest_any _ _ _ _ (unhide HR3).rd hs hp).mono ?_
    rintro e w4 (⟨p, hd, rfl, m, hm4⟩ | ⟨t, r, hd, rfl, hm4⟩)
    · have HF : Hid (bareTestR s k = .inl p) := hide (by rw [unhide HG, hd])
      have HP := hide ((unhide HR3).trans hm4)
      clear hd hm4
      go_wp2
      exact ⟨rfl, Or.inl ⟨p, HF.out, rfl, m, (unhide HP).of_alloc⟩⟩
    · have HF : Hid (bareTestR s k = .inr (t, r)) := hide (by rw [unhide HG, hd])
      have HP := hide ((unhide HR3).trans hm4)
      clear hd hm4
      obtain ⟨c0, c1, c2, c3, f0, f1, f2, f3⟩ := cells4 ((unhide HP).kept hlt)
      obtain ⟨t0, t1, t2, t3⟩ := t
      simp only [tv]
      go_wp2
      exact bodyPost_ret (v := tv ⟨t0, t1, t2, t3⟩) (by simp [results, Tryd.results73, go_sem, tv, c0, c1, c2, c3]) rfl (Or.inr ⟨⟨t0, t1, t2, t3⟩, r, HF.out, rfl, (unhide HP).of_alloc.put4 (Nat.le_refl _) hlt _ _ _ _⟩)
  case false =>
    have HG : Hid (bareTestR s k = numberTestR s (nextP s k)) := hide (by unfold bareTestR; rw [if_neg (by rw [H1.out.2]; simp), if_neg (by rw [H2.out.2]; simp), if_neg (by rw [H3.out.2]; simp), if_neg (by rw [h4]; simp)])
    have H4 := hide h4
    clear h4
    go_enter Tryd.func73, Tryd.ntmps73
    go_wp2_with fail
    refine (take_no _ _ k _ _ (unhide HR0).rd hs hk (by simp) H1.out.2).mono ?_
    rintro e w1 ⟨rfl, hm⟩
    have HR1 := hide ((unhide HR0).trans hm)
    clear hm
    go_wp2_with fail
    refine (take_no _ _ _ _ _ (unhide HR1).rd hs hp (by simp) H2.out.1).mono ?_
    rintro e w1' ⟨rfl, hm⟩
    rw [unhide HI] at hm
    have HR1' := hide ((unhide HR1).trans hm)
    clear hm
    go_wp2_with fail
    refine (take_no _ _ _ _ _ (unhide HR1').rd hs hp (by simp) H3.out.1).mono ?_
    rintro e w2 ⟨rfl, hm⟩
    rw [unhide HI] at hm
    have HR2 := hide ((unhide HR1').trans hm)
    clear hm
    go_wp2_with fail
    refine (within_any _ _ (nextP s k) _ _ _ (unhide HR2).rd (by simp)).mono ?_
    rintro e w2' ⟨rfl, n, rfl⟩
    rw [unhide H4]
    have HR3 := hide ((unhide HR2).drewN n)
    go_wp2_with fail
    refine (numberTest_any _ _ _ _ (unhide HR3).rd hs hp).mono ?_
    rintro e w4 (⟨p, hd, rfl, m, hm4⟩ | ⟨t, r, hd, rfl, hm4⟩)
    · have HF : Hid (bareTestR s k = .inl p) := hide (by rw [unhide HG, hd])
      have HP := hide ((unhide HR3).trans hm4)
      clear hd hm4
      go_wp2
      exact ⟨rfl, Or.inl ⟨p, HF.out, rfl, m, (unhide HP).of_alloc⟩⟩
    · have HF : Hid (bareTestR s k = .inr (t, r)) := hide (by rw [unhide HG, hd])
      have HP := hide ((unhide HR3).trans hm4)
      clear hd hm4
      obtain ⟨c0, c1, c2, c3, f0, f1, f2, f3⟩ := cells4 ((unhide HP).kept hlt)
      obtain ⟨t0, t1, t2, t3⟩ := t
      simp only [tv]
      go_wp2
      exact bodyPost_ret (v := tv ⟨t0, t1, t2, t3⟩) (by simp [results, Tryd.results73, go_sem, tv, c0, c1, c2, c3]) rfl (Or.inr ⟨⟨t0, t1, t2, t3⟩, r, HF.out, rfl, (unhide HP).of_alloc.put4 (Nat.le_refl _) hlt _ _ _ _⟩)

end Go.Proofs.YthnggjaecngbiaaDoor
